/- What slices.SortFunc and slices.Compact leave of a clause, on plain lists. No function of the program is named here. -/
import Derived.Test.YtdngaohjocokiaaCuPure
import Derived.Test.YtdngaohjocokiaaCuMay
import Derived.Test.YtdngaohjocokiaaRows
import Derived.Test.YtdngaohjocokiaaShelf
import Derived.BigQuiet
import Derived.Deep.AppendLies
import Derived.Deep.QuietTactic
import Derived.Deep.RegionLaw
import Derived.Deep.RegionWith
import Derived.KernelRfl
import Derived.Laws.EntriesVeiled
import Derived.Lib.ConvBytes
import Derived.Lib.Hide
import Derived.Lib.SlBytesRow
import Derived.Lib.SlicesCompact
import Derived.Lib.SmallJoins
import Derived.Shelf.Bytes.SlSmallAll
import Derived.Sort.Statements
import Derived.WalkKit
import Derived.WalkLawsBesides
import Derived.WalkSpells
namespace Go.Proofs.Ytdngaohjocokiaa
open Go Go.Lib Go.Sort

structure CompOk (d : Array Int) (m : Nat) : Prop where
  mem : ∀ x, x ∈ compactUpTo d m ↔ ∃ j, j < m ∧ d[j]! = x
  last : 0 < m → 0 < (compactUpTo d m).length ∧ (compactUpTo d m).getD ((compactUpTo d m).length - 1) 0 = d[m - 1]!
  adj : ∀ i, i + 1 < (compactUpTo d m).length → ((compactUpTo d m).getD i 0).natAbs ≤ ((compactUpTo d m).getD (i + 1) 0).natAbs ∧ (compactUpTo d m).getD i 0 ≠ (compactUpTo d m).getD (i + 1) 0
theorem getD_app_lt {l m : List Int} {i : Nat} (h : i < l.length) : (l ++ m).getD i 0 = l.getD i 0 := by simp only [List.getD]; rw [List.getElem?_append_left h]
theorem getD_app_eq {l : List Int} {x : Int} : (l ++ [x]).getD l.length 0 = x := by simp [List.getD]
theorem compOk (d : Array Int) (hs : ∀ i j, i < j → j < d.size → (d[i]!).natAbs ≤ (d[j]!).natAbs) : ∀ m, m ≤ d.size → CompOk d m
  | 0, _ => ⟨fun x => by simp [compactUpTo], fun h => absurd h (by omega), fun i hi => by simp [compactUpTo] at hi⟩
  | m + 1, hm => by
    have ih := compOk d hs m (by omega)
    by_cases hk : keeps d m = true
    · have e : compactUpTo d (m + 1) = compactUpTo d m ++ [d[m]!] := by rw [compactUpTo_succ, if_pos hk]
      refine ⟨fun x => ?_, fun _ => ?_, fun i hi => ?_⟩
      · rw [e, List.mem_append, ih.mem]
        constructor
        · rintro (⟨j, h1, h2⟩ | h)
          · exact ⟨j, by omega, h2⟩
          · exact ⟨m, by omega, (by simpa using h : x = d[m]!).symm⟩
        · rintro ⟨j, h1, h2⟩
          by_cases hj : j = m
          · subst hj; exact .inr (by simp [h2])
          · exact .inl ⟨j, by omega, h2⟩
      · rw [e]
        refine ⟨by simp, ?_⟩
        rw [List.length_append, show (compactUpTo d m).length + [d[m]!].length - 1 = (compactUpTo d m).length by simp]
        exact getD_app_eq
      · rw [e] at hi ⊢
        simp only [List.length_append, List.length_cons, List.length_nil] at hi
        by_cases h1 : i + 1 < (compactUpTo d m).length
        · rw [getD_app_lt (by omega), getD_app_lt h1]
          exact ih.adj i h1
        · have e1 : i + 1 = (compactUpTo d m).length := by omega
          have hm0 : 0 < m := by
            rcases Nat.eq_zero_or_pos m with h | h
            · subst h
              have : (compactUpTo d 0).length = 0 := by simp [compactUpTo]
              omega
            · exact h
          have hl := (ih.last hm0).2
          rw [getD_app_lt (by omega), e1, getD_app_eq, show i = (compactUpTo d m).length - 1 by omega, hl]
          refine ⟨hs _ _ (by omega) (by omega), fun h => ?_⟩
          have := keeps_neg hm0 h.symm
          rw [this] at hk; cases hk
    · have hk : keeps d m = false := by simpa using hk
      have e : compactUpTo d (m + 1) = compactUpTo d m := by rw [compactUpTo_succ, hk]; simp
      have h0 : 0 < m := by
        rcases Nat.eq_zero_or_pos m with h | h
        · subst h; rw [keeps_lt_one d 0 (by omega)] at hk; cases hk
        · exact h
      have heq : d[m]! = d[m - 1]! := Classical.byContradiction fun h => by rw [keeps_pos h] at hk; cases hk
      refine ⟨fun x => ?_, fun _ => ?_, fun i hi => ?_⟩
      · rw [e, ih.mem]
        constructor
        · rintro ⟨j, h1, h2⟩; exact ⟨j, by omega, h2⟩
        · rintro ⟨j, h1, h2⟩
          by_cases hj : j = m
          · subst hj; exact ⟨j - 1, by omega, by rw [← heq]; exact h2⟩
          · exact ⟨j, by omega, h2⟩
      · rw [e, Nat.add_sub_cancel, heq]; exact ih.last h0
      · rw [e] at hi ⊢; exact ih.adj i hi

/-- How two literals are compared. -/
def cmpV (x y : Int) : Int := Lib.compareInt (varW x) (varW y)
theorem ltV (x y : Int) : ltOf cmpV x y = decide (varW x < varW y) := by
  unfold ltOf cmpV Lib.compareInt
  by_cases h1 : varW x < varW y
  · simp [h1]
  · by_cases h2 : varW y < varW x <;> simp [h1, h2]
theorem swoV : SWO (ltOf cmpV) where
  irrefl x := by rw [ltV]; simp
  trans x y z h1 h2 := by rw [ltV] at *; simp at *; omega
  ntrans x y z h1 h2 := by rw [ltV] at *; simp at *; omega
/-- What is sorted, then compacted, of a clause c. -/
structure SortedC (c C : List Int) : Prop where
  mem : ∀ x, x ∈ C ↔ x ∈ c
  adj : ∀ i, i + 1 < C.length → (C.getD i 0).natAbs ≤ (C.getD (i + 1) 0).natAbs ∧ C.getD i 0 ≠ C.getD (i + 1) 0
theorem sortedC {c : List Int} {n : Nat} {d' : Array Int} (hn : c.length = n) (hp : PermIn 0 n c.toArray d') (hs : SortedIn (ltOf cmpV) 0 n d') (hr : ∀ x ∈ c, -9223372036854775807 ≤ x ∧ x ≤ 9223372036854775807) :
    d'.size = n ∧ SortedC c (Lib.compact d'.toList) ∧ (Lib.compact d'.toList).length ≤ n := by
  obtain ⟨h1, _, h3⟩ := hp
  have hsz : d'.size = n := by rw [h1]; simpa using hn
  have hperm : d'.toList.Perm c := by
    have e1 : d'.extract 0 n = d' := by rw [← hsz]; simp
    have e2 : c.toArray.extract 0 n = c.toArray := by rw [← hn]; simp
    rw [e1, e2] at h3
    simpa using h3
  have hin : ∀ j, j < n → d'[j]! ∈ c := fun j hj => by
    rw [getElem!_pos d' j (by omega)]
    exact hperm.mem_iff.1 (by simp)
  have hab : ∀ i j, i < j → j < d'.size → (d'[i]!).natAbs ≤ (d'[j]!).natAbs := fun i j hij hj => by
    have := hs i j (by omega) hij (by omega)
    rw [ltV] at this
    have a1 := hr _ (hin i (by omega))
    have a2 := hr _ (hin j (by omega))
    rw [varW_in a1.1 a1.2, varW_in a2.1 a2.2] at this
    simp at this
    omega
  have hc : Lib.compact d'.toList = compactUpTo d' n := by unfold Lib.compact; rw [Array.toArray_toList, Array.length_toList, hsz]
  have hok := compOk d' hab n (by omega)
  refine ⟨hsz, ⟨fun x => ?_, ?_⟩, ?_⟩
  · rw [hc, hok.mem, ← hperm.mem_iff, Array.mem_toList_iff, Array.mem_iff_getElem]
    constructor
    · rintro ⟨j, h, e⟩; exact ⟨j, by omega, by rw [← e, getElem!_pos d' j (by omega)]⟩
    · rintro ⟨j, h, e⟩; exact ⟨j, by omega, by rw [← e, getElem!_pos d' j h]⟩
  · rw [hc]; exact hok.adj
  · rw [hc]
    unfold compactUpTo
    rw [List.length_map]
    have := List.length_filter_le (keeps d') (List.range n)
    rw [List.length_range] at this
    exact this
/-- Two neighbours are opposites: it is empty talk. -/
theorem SortedC.talk {c C : List Int} (h : SortedC c C) {i : Nat} (hi : i + 1 < C.length) (e : C.getD (i + 1) 0 = - C.getD i 0) : orderS c = none := by
  have : opp c = true := opp_iff.2 ⟨C.getD i 0, (h.mem _).1 (by simp [List.getD, List.getElem?_eq_getElem (show i < C.length by omega)]), by
    rw [← e]; exact (h.mem _).1 (by simp [List.getD, List.getElem?_eq_getElem hi])⟩
  simp [orderS, this]
/-- No two neighbours are: it is in order. -/
theorem SortedC.order {c C : List Int} (h : SortedC c C) (h0 : (0 : Int) ∉ c) (hn : ∀ i, i + 1 < C.length → C.getD (i + 1) 0 ≠ - C.getD i 0) : orderS c = some C := by
  have ha := asc_of_sorted (fun i hi => (h.adj i hi).1) (fun i hi => (h.adj i hi).2) hn
  have h0C : (0 : Int) ∉ C := fun hm => h0 ((h.mem 0).1 hm)
  have ho : opp c = false := by
    cases hq : opp c with
    | false => rfl
    | true =>
      obtain ⟨x, h1, h2⟩ := opp_iff.1 hq
      have := asc_cons' ha x ((h.mem x).2 h1) (-x) ((h.mem _).2 h2) (by omega)
      have : x = 0 := by omega
      subst this
      exact absurd h1 h0
  have e : C = ordL c := asc_ext ha (asc_ordL ho) fun x => (h.mem x).trans mem_ordL.symm
  simp [orderS, ho, e]
end Go.Proofs.Ytdngaohjocokiaa
