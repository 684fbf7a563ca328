/- Unit propagation on plain lists: what holds between two literals that are told, and between two clauses that one is told to. No function of the program is named here. -/
import Derived.Test.YtdngaohjocokiaaCuPure
import Derived.Test.YtdngaohjocokiaaCuInv
import Derived.BigQuiet
import Derived.Deep.QuietTactic
import Derived.Deep.RegionWith
import Derived.Lib.ConvBytes
import Derived.Lib.Hide
import Derived.Lib.SlBytesRow
import Derived.Lib.SmallJoins
import Derived.Shelf.Bytes.SlSmallAll
import Derived.WalkKit
import Derived.WalkLawsBesides
import Derived.WalkSpells
namespace Go.Proofs.Ytdngaohjocokiaa

/-- What is sent: literals of the variables, each variable once, each derived. -/
structure Core (cls : List (List Int)) (given : List Int) (vars : Nat) (S : List Int) : Prop where
  sv : ∀ x, x ∈ S → VLit vars x
  nd : NoDup S
  der : ∀ x, x ∈ S → Der cls given x
section
variable {cls : List (List Int)} {given : List Int} {vars : Nat} {S : List Int} {left : List Nat}
theorem Core.start : Core cls given vars [] := ⟨(fun x h => by cases h), List.Pairwise.nil, (fun x h => by cases h)⟩
theorem Core.put (h : Core cls given vars S) {l : Int} (hl : VLit vars l) (h1 : l ∉ S) (h2 : -l ∉ S) (hd : Der cls given l) : Core cls given vars (S ++ [l]) :=
  ⟨fun x hx => by
    rcases List.mem_append.1 hx with hx | hx
    · exact h.sv x hx
    · obtain rfl : x = l := by simpa using hx
      exact hl, nodup_put h.nd h1 h2, fun x hx => by
    rcases List.mem_append.1 hx with hx | hx
    · exact h.der x hx
    · obtain rfl : x = l := by simpa using hx
      exact hd⟩
theorem Core.room (h : Core cls given vars S) {l : Int} (hl : VLit vars l) (h1 : l ∉ S) (h2 : -l ∉ S) : S.length < vars := room_vars h.nd h.sv hl h1 h2
/-- A literal whose opposite was sent clashes, if it is derived. -/
theorem Core.clash (h : Core cls given vars S) {l : Int} (hd : Der cls given l) (h2 : -l ∈ S) : Clash cls given := .inl ⟨l, hd, h.der _ h2⟩
theorem Core.clash2 (h : Core cls given vars S) {c : List Int} (hc : c ∈ cls) (h2 : ∀ x, x ∈ c → -x ∈ S) : Clash cls given := .inr ⟨c, hc, fun x hx => h.der _ (h2 x hx)⟩

/-- While the given ones are sent. -/
structure Giv (cls : List (List Int)) (given : List Int) (vars : Nat) (S : List Int) (k : Nat) : Prop extends Core cls given vars S where
  giv : ∀ x, x ∈ given.take k → x ∈ S
  room_ : S.length ≤ k
/-- While the clauses of one literal at most are gone through. -/
structure Sho (cls : List (List Int)) (given : List Int) (vars : Nat) (S : List Int) (k : Nat) : Prop extends Core cls given vars S where
  giv : ∀ x, x ∈ given → x ∈ S
  sho : ∀ i, i < k → (cls.getD i []).length ≤ 1 → ∃ x, x ∈ cls.getD i [] ∧ x ∈ S
  room_ : S.length ≤ given.length + shorts cls k
/-- While literals are told. -/
structure Tel (cls : List (List Int)) (given : List Int) (vars : Nat) (S : List Int) (left : List Nat) : Prop extends Core cls given vars S where
  giv : ∀ x, x ∈ given → x ∈ S
  llen : left.length = cls.length
  fir : ∀ i, i < cls.length → ((cls.getD i []).length ≤ 1 ∨ left.getD i 0 ≤ 1) → ∃ x, x ∈ cls.getD i [] ∧ x ∈ S
  room_ : S.length ≤ given.length + fires cls left
theorem Giv.start : Giv cls given vars [] 0 := ⟨Core.start, fun x h => by simp at h, Nat.le_refl _⟩
theorem Giv.same {k : Nat} (h : Giv cls given vars S k) (hk : k < given.length) (hm : given.getD k 0 ∈ S) : Giv cls given vars S (k + 1) :=
  ⟨h.toCore, fun x hx => by
    rw [take_snocZ _ _ hk] at hx
    rcases List.mem_append.1 hx with hx | hx
    · exact h.giv x hx
    · obtain rfl : x = given.getD k 0 := by simpa using hx
      exact hm, by have := h.room_; omega⟩
theorem Giv.put {k : Nat} (h : Giv cls given vars S k) (hk : k < given.length) (hv : VLit vars (given.getD k 0)) (h1 : given.getD k 0 ∉ S) (h2 : -given.getD k 0 ∉ S) : Giv cls given vars (S ++ [given.getD k 0]) (k + 1) :=
  ⟨h.toCore.put hv h1 h2 (.given (by simp [List.getD, List.getElem?_eq_getElem hk])), fun x hx => by
    rw [take_snocZ _ _ hk] at hx
    rcases List.mem_append.1 hx with hx | hx
    · exact List.mem_append.2 (.inl (h.giv x hx))
    · exact List.mem_append.2 (.inr hx), by have := h.room_; simp; omega⟩
theorem Giv.done (h : Giv cls given vars S given.length) : Sho cls given vars S 0 :=
  ⟨h.toCore, fun x hx => h.giv x (by rw [List.take_length]; exact hx), fun i hi => absurd hi (by omega), by have := h.room_; simp [shorts]; omega⟩
theorem Sho.long {k : Nat} (h : Sho cls given vars S k) (hk : k < cls.length) (hl : ¬ (cls.getD k []).length ≤ 1) : Sho cls given vars S (k + 1) :=
  ⟨h.toCore, h.giv, fun i hi h1 => by
    by_cases e : i = k
    · subst e; exact absurd h1 hl
    · exact h.sho i (by omega) h1, by rw [shorts_succ hk, if_neg hl]; exact h.room_⟩
theorem Sho.same {k : Nat} (h : Sho cls given vars S k) (hk : k < cls.length) {l : Int} (hm : l ∈ cls.getD k []) (hs : l ∈ S) : Sho cls given vars S (k + 1) :=
  ⟨h.toCore, h.giv, fun i hi h1 => by
    by_cases e : i = k
    · subst e; exact ⟨l, hm, hs⟩
    · exact h.sho i (by omega) h1, by rw [shorts_succ hk]; have := h.room_; omega⟩
theorem Sho.put {k : Nat} (h : Sho cls given vars S k) (hk : k < cls.length) (hl1 : (cls.getD k []).length ≤ 1) {l : Int} (hm : l ∈ cls.getD k []) (hv : VLit vars l) (h1 : l ∉ S) (h2 : -l ∉ S) : Sho cls given vars (S ++ [l]) (k + 1) := by
  have hc : cls.getD k [] ∈ cls := by simp [List.getD, List.getElem?_eq_getElem hk]
  have hd : Der cls given l := .unit hc hm fun x hx e => by
    exfalso
    generalize cls.getD k [] = c at hl1 hm hx
    match c, hl1 with
    | [], _ => cases hm
    | [a], _ =>
      have a1 : l = a := by simpa using hm
      have a2 : x = a := by simpa using hx
      exact e (a2.trans a1.symm)
    | _ :: _ :: _, h => simp at h
  refine ⟨h.toCore.put hv h1 h2 hd, fun x hx => List.mem_append.2 (.inl (h.giv x hx)), fun i hi hq => ?_, ?_⟩
  · by_cases e : i = k
    · subst e; exact ⟨l, hm, by simp⟩
    · obtain ⟨x, h3, h4⟩ := h.sho i (by omega) hq
      exact ⟨x, h3, List.mem_append.2 (.inl h4)⟩
  · rw [shorts_succ hk, if_pos hl1]
    have := h.room_
    simp; omega
theorem Sho.fits {k : Nat} (h : Sho cls given vars S k) (hk : k < cls.length) (hl1 : (cls.getD k []).length ≤ 1) : S.length < given.length + cls.length := by
  have := h.room_
  have h1 := shorts_succ hk
  rw [if_pos hl1] at h1
  have := shorts_le (cs := cls) (k := k + 1) (by omega)
  have := shorts_le (cs := cls) (k := k) (by omega)
  omega
/-- The clauses' lengths. -/
def lensU (cls : List (List Int)) : List Nat := cls.map List.length
theorem lensU_at {i : Nat} (h : i < cls.length) : (lensU cls).getD i 0 = (cls.getD i []).length := by simp [lensU, List.getD, List.getElem?_eq_getElem h]
theorem Sho.done (h : Sho cls given vars S cls.length) : Tel cls given vars S (lensU cls) :=
  ⟨h.toCore, h.giv, by simp [lensU], fun i hi hq => h.sho i hi (by rw [lensU_at hi] at hq; omega), by
    have := shorts_le_fires cls (lensU cls) (by simp [lensU])
    have := h.room_
    omega⟩

theorem cnt_lt {c T : List Int} {y : Int} (h : y ∈ c) (h2 : -y ∈ T) : cntU c T < c.length := by
  unfold cntU
  rw [List.length_filter_lt_length_iff_exists]
  exact ⟨y, h, by simpa using h2⟩
theorem cu_set_self {l : List Nat} {i x : Nat} (h : i < l.length) : (l.set i x).getD i 0 = x := by simp [List.getD, h]
theorem cu_set_ne {l : List Nat} {i j x : Nat} (h : i ≠ j) : (l.set i x).getD j 0 = l.getD j 0 := by simp only [List.getD]; rw [List.getElem?_set_ne h]

theorem fires_same {i x : Nat} (hi : i < cls.length) (hil : i < left.length) (h : ((cls.getD i []).length ≤ 1 ∨ left.getD i 0 ≤ 1) ↔ ((cls.getD i []).length ≤ 1 ∨ x ≤ 1)) : fires cls (left.set i x) = fires cls left := by
  have hf := fires_set cls left i x hi hil
  by_cases hq : (cls.getD i []).length ≤ 1 ∨ x ≤ 1
  · rw [if_pos hq, if_pos (h.2 hq)] at hf; omega
  · rw [if_neg hq, if_neg (fun h2 => hq (h.1 h2))] at hf; omega
theorem fires_more {i : Nat} (hi : i < cls.length) (hil : i < left.length) (hx : left.getD i 0 = 2) (hl2 : 2 ≤ (cls.getD i []).length) : fires cls (left.set i 1) = fires cls left + 1 := by
  have hf := fires_set cls left i 1 hi hil
  have e1 : ¬ ((cls.getD i []).length ≤ 1 ∨ left.getD i 0 ≤ 1) := by omega
  have e2 : (cls.getD i []).length ≤ 1 ∨ 1 ≤ 1 := .inr (Nat.le_refl _)
  rw [if_neg e1, if_pos e2] at hf
  omega
/-- A clause has one literal less, and it is not one that is left. -/
theorem Tel.keep (h : Tel cls given vars S left) {i x : Nat} (hi : i < cls.length) (hx : left.getD i 0 = x + 1) (h1 : x ≠ 1) : Tel cls given vars S (left.set i x) := by
  have hil : i < left.length := by rw [h.llen]; exact hi
  refine ⟨h.toCore, h.giv, by rw [List.length_set]; exact h.llen, fun j hj hq => ?_, ?_⟩
  · by_cases e : i = j
    · subst e
      rw [cu_set_self hil] at hq
      refine h.fir i hj ?_
      omega
    · rw [cu_set_ne e] at hq
      exact h.fir j hj hq
  · have := h.room_
    rw [fires_same hi hil (by omega)]
    omega
/-- One is left, and was sent. -/
theorem Tel.fire (h : Tel cls given vars S left) {i : Nat} (hi : i < cls.length) (hx : left.getD i 0 = 2) (hl2 : 2 ≤ (cls.getD i []).length) {l : Int} (hm : l ∈ cls.getD i []) (hs : l ∈ S) : Tel cls given vars S (left.set i 1) ∧ fires cls (left.set i 1) = fires cls left + 1 := by
  have hil : i < left.length := by rw [h.llen]; exact hi
  have hf := fires_more hi hil hx hl2
  refine ⟨⟨h.toCore, h.giv, by rw [List.length_set]; exact h.llen, fun j hj hq => ?_, by have := h.room_; omega⟩, hf⟩
  by_cases e : i = j
  · subst e; exact ⟨l, hm, hs⟩
  · rw [cu_set_ne e] at hq
    exact h.fir j hj hq
theorem Tel.fireNew (h : Tel cls given vars S left) {i : Nat} (hi : i < cls.length) (hx : left.getD i 0 = 2) (hl2 : 2 ≤ (cls.getD i []).length) {l : Int} (hm : l ∈ cls.getD i []) (hv : VLit vars l) (h1 : l ∉ S) (h2 : -l ∉ S) (hd : Der cls given l) :
    Tel cls given vars (S ++ [l]) (left.set i 1) := by
  have hil : i < left.length := by rw [h.llen]; exact hi
  have hf := fires_more hi hil hx hl2
  refine ⟨h.toCore.put hv h1 h2 hd, fun x hx => List.mem_append.2 (.inl (h.giv x hx)), by rw [List.length_set]; exact h.llen, fun j hj hq => ?_, by have := h.room_; simp; omega⟩
  by_cases e : i = j
  · subst e; exact ⟨l, hm, by simp⟩
  · rw [cu_set_ne e] at hq
    obtain ⟨x, h3, h4⟩ := h.fir j hj hq
    exact ⟨x, h3, List.mem_append.2 (.inl h4)⟩
theorem Tel.fits (h : Tel cls given vars S left) {i : Nat} (hi : i < cls.length) (hx : left.getD i 0 = 2) (hl2 : 2 ≤ (cls.getD i []).length) : S.length < given.length + cls.length := by
  have hil : i < left.length := by rw [h.llen]; exact hi
  have hf := fires_more hi hil hx hl2
  have := fires_le cls (left.set i 1)
  have := h.room_
  omega
/-- Nothing is left to be told: these are all. -/
theorem Tel.done (h : Tel cls given vars S left) (ha : ∀ c, c ∈ cls → c.Nodup) (hc : ∀ i, i < cls.length → left.getD i 0 = cntU (cls.getD i []) S) : (∀ l, l ∈ S ↔ Der cls given l) ∧ ¬ Clash cls given := by
  refine closed_is h.giv h.der (fun l hl => nodup_opp h.nd h.sv hl) (fun c hcm => ?_) (fun c hcm l hl hx => ?_)
  · obtain ⟨i, hi, rfl⟩ := List.getElem_of_mem hcm
    have e : cls.getD i [] = cls[i] := by simp [List.getD, List.getElem?_eq_getElem hi]
    have hq := hc i hi
    by_cases h1 : left.getD i 0 ≤ 1
    · obtain ⟨x, h2, h3⟩ := h.fir i hi (.inr h1)
      exact ⟨x, e ▸ h2, nodup_opp h.nd h.sv h3⟩
    · obtain ⟨x, h2, h3⟩ := cnt_pos (c := cls.getD i []) (T := S) (by omega)
      exact ⟨x, e ▸ h2, h3⟩
  · obtain ⟨i, hi, rfl⟩ := List.getElem_of_mem hcm
    have e : cls.getD i [] = cls[i] := by simp [List.getD, List.getElem?_eq_getElem hi]
    have hq := hc i hi
    have h1 : cntU (cls.getD i []) S ≤ 1 := by rw [e]; exact cnt_le_one (ha _ hcm) hx
    obtain ⟨x, h2, h3⟩ := h.fir i hi (.inr (by omega))
    by_cases hxl : x = l
    · rw [← hxl]; exact h3
    · exact absurd (hx x (e ▸ h2) hxl) (nodup_opp h.nd h.sv h3)
end
end Go.Proofs.Ytdngaohjocokiaa
