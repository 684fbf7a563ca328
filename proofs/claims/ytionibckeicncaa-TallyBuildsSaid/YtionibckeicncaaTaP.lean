/- The tallies on plain lists: what their clauses say of the outputs; there is a model; how many they are. -/
import Derived.BigQuiet
import Derived.Deep.QuietTactic
import Derived.Deep.RegionWith
import Derived.Lib.ConvBytes
import Derived.Lib.Hide
import Derived.Lib.SlBytesRow
import Derived.Lib.SmallJoins
import Derived.Shelf.Bytes.SlSmallAll
import Derived.WalkKit
import Derived.WalkLawsBesides
import Derived.WalkSpells
namespace Go.Proofs.Ytionibckeicncaa
open Go

def upT {α : Type} (g : Nat → List α) (k : Nat) : List α := (List.range k).flatMap g
theorem upT_zero {α : Type} (g : Nat → List α) : upT g 0 = [] := rfl
theorem upT_succ {α : Type} (g : Nat → List α) (k : Nat) : upT g (k + 1) = upT g k ++ g k := by simp [upT, List.range_succ, List.flatMap_append]
theorem upT_mem {α : Type} {g : Nat → List α} {k : Nat} {x : α} : x ∈ upT g k ↔ ∃ i, i < k ∧ x ∈ g i := by simp [upT, List.mem_flatMap]
def sumT (f : Nat → Nat) : Nat → Nat
  | 0 => 0
  | n + 1 => sumT f n + f n
theorem upT_len {α : Type} (g : Nat → List α) (f : Nat → Nat) : ∀ k, (∀ i, i < k → (g i).length = f i) → (upT g k).length = sumT f k
  | 0, _ => rfl
  | k + 1, h => by rw [upT_succ, List.length_append, upT_len g f k (fun i hi => h i (by omega)), h k (by omega)]; rfl
theorem sumT_congr {f g : Nat → Nat} : ∀ k, (∀ i, i < k → f i = g i) → sumT f k = sumT g k
  | 0, _ => rfl
  | k + 1, h => by rw [sumT, sumT, sumT_congr k (fun i hi => h i (by omega)), h k (by omega)]
theorem sumT_add (f g : Nat → Nat) : ∀ k, sumT (fun i => f i + g i) k = sumT f k + sumT g k
  | 0 => rfl
  | k + 1 => by rw [sumT, sumT, sumT, sumT_add f g k]; omega
theorem sumT_le {f : Nat → Nat} {m : Nat} : ∀ k, (∀ i, i < k → f i ≤ m) → sumT f k ≤ k * m
  | 0, _ => by simp [sumT]
  | k + 1, h => by
    have := sumT_le k (fun i hi => h i (by omega))
    have := h k (by omega)
    rw [sumT, Nat.succ_mul]; omega
theorem sumT_tail {f : Nat → Nat} {a : Nat} : ∀ b, a ≤ b → (∀ i, a ≤ i → i < b → f i = 0) → sumT f b = sumT f a
  | 0, h, _ => by obtain rfl : a = 0 := by omega
                  rfl
  | b + 1, h, h0 => by
    by_cases e : a = b + 1
    · rw [e]
    · rw [sumT, sumT_tail b (by omega) (fun i h1 h2 => h0 i h1 (by omega)), h0 b (by omega) (by omega)]; omega
/-- The clauses of two parts together. -/
def alC (left right both : List Int) (i j : Nat) : List Int := [both.getD (i + j - 1) 0] ++ (if 0 < i then [-(left.getD (i - 1) 0)] else []) ++ (if 0 < j then [-(right.getD (j - 1) 0)] else [])
def amC (left right both : List Int) (i j : Nat) : List Int := [-(both.getD (i + j) 0)] ++ (if i < left.length then [left.getD i 0] else []) ++ (if j < right.length then [right.getD j 0] else [])
def pairC (left right both : List Int) (i j : Nat) : List (List Int) := (if 0 < i + j then [alC left right both i j] else []) ++ (if i + j < both.length then [amC left right both i j] else [])
def rowC (left right both : List Int) (i : Nat) : List (List Int) := upT (pairC left right both i) (min right.length (both.length - i) + 1)
def mergeC (left right both : List Int) : List (List Int) := upT (rowC left right both) (left.length + 1)
def freshL (next m : Nat) : List Int := (List.range m).map fun i => ((next + i : Nat) : Int)
theorem fresh_len (next m : Nat) : (freshL next m).length = m := by simp [freshL]
theorem fresh_get {next m i : Nat} (h : i < m) : (freshL next m).getD i 0 = ((next + i : Nat) : Int) := by simp [freshL, List.getD, h]
theorem fresh_mem {next m : Nat} {x : Int} : x ∈ freshL next m ↔ ∃ i, i < m ∧ x = ((next + i : Nat) : Int) := by
  simp only [freshL, List.mem_map, List.mem_range]
  constructor
  · rintro ⟨i, h, rfl⟩; exact ⟨i, h, rfl⟩
  · rintro ⟨i, h, rfl⟩; exact ⟨i, h, rfl⟩
structure Tly where
  out : List Int
  cls : List (List Int)
  next : Nat
/-- What 'outputs' makes of literals, with so much fuel. -/
def outsF : Nat → Nat → List Int → Nat → Tly
  | 0, most, lits, next => ⟨lits.take most, [], next⟩
  | n + 1, most, lits, next =>
    if lits.length ≤ 1 then ⟨lits.take most, [], next⟩ else
      let a := outsF n most (lits.take (lits.length / 2)) next
      let b := outsF n most (lits.drop (lits.length / 2)) a.next
      let m := min (a.out.length + b.out.length) most
      ⟨freshL b.next m, a.cls ++ b.cls ++ mergeC a.out b.out (freshL b.next m), b.next + m⟩
/-- How many clauses and variables. -/
def pairsN (left right s1 : Nat) : Nat := sumT (fun i => min (right + 1) (s1 - i)) (left + 1)
def sizeF : Nat → Nat → Nat → Nat × Nat
  | 0, _, _ => (0, 0)
  | n + 1, lits, most =>
    if lits ≤ 1 then (0, 0) else
      let a := sizeF n (lits / 2) most
      let b := sizeF n (lits - lits / 2) most
      let l := min (lits / 2) most
      let r := min (lits - lits / 2) most
      let m := min (l + r) most
      (a.1 + b.1 + (pairsN l r (m + 1) - 1) + pairsN l r m, a.2 + b.2 + m)
theorem outsF_len : ∀ (n most : Nat) (lits : List Int) (next : Nat), lits.length ≤ n + 1 → (outsF n most lits next).out.length = min lits.length most
  | 0, most, lits, next, h => by simp [outsF]; omega
  | n + 1, most, lits, next, h => by
    unfold outsF
    split
    · simp; omega
    · rename_i hl
      simp only [fresh_len]
      rw [outsF_len n most _ _ (by rw [List.length_take]; omega), outsF_len n most _ _ (by rw [List.length_drop]; omega), List.length_take, List.length_drop]
      omega
theorem pairC_len (left right both : List Int) (i j : Nat) : (pairC left right both i j).length = (if 0 < i + j then 1 else 0) + (if i + j < both.length then 1 else 0) := by
  unfold pairC
  rw [List.length_append]
  split <;> split <;> rfl
theorem row_one (i : Nat) : ∀ K, sumT (fun j => if 0 < i + j then 1 else 0) K = K - (if i = 0 then 1 else 0)
  | 0 => by simp [sumT]
  | K + 1 => by
    rw [sumT, row_one i K]
    repeat' split
    all_goals omega
theorem row_two (i m : Nat) : ∀ K, sumT (fun j => if i + j < m then 1 else 0) K = min K (m - i)
  | 0 => by simp [sumT]
  | K + 1 => by
    rw [sumT, row_two i m K]
    split <;> omega
theorem rowC_len {left right both : List Int} {i : Nat} (hi : i ≤ both.length) : (rowC left right both i).length = (min (right.length + 1) (both.length + 1 - i) - (if i = 0 then 1 else 0)) + min (right.length + 1) (both.length - i) := by
  unfold rowC
  rw [upT_len _ _ _ (fun j _ => pairC_len left right both i j), sumT_add, row_one, row_two]
  have e1 : min right.length (both.length - i) + 1 = min (right.length + 1) (both.length + 1 - i) := by omega
  rw [e1]
  congr 1
  omega
theorem sum_less (f : Nat → Nat) (h : 1 ≤ f 0) : ∀ n, sumT (fun i => f i - (if i = 0 then 1 else 0)) (n + 1) = sumT f (n + 1) - 1
  | 0 => by simp [sumT]
  | n + 1 => by
    have e := sum_less f h n
    have h2 : ∀ n, 1 ≤ sumT f (n + 1) := fun n => by
      induction n with
      | zero => simpa [sumT] using h
      | succ n ih => rw [sumT]; omega
    have := h2 n
    show sumT (fun i => f i - (if i = 0 then 1 else 0)) (n + 1) + (f (n + 1) - (if n + 1 = 0 then 1 else 0)) = sumT f (n + 1) + f (n + 1) - 1
    rw [e, if_neg (by omega)]
    omega
theorem mergeC_len {left right both : List Int} (h : left.length ≤ both.length) : (mergeC left right both).length = (pairsN left.length right.length (both.length + 1) - 1) + pairsN left.length right.length both.length := by
  unfold mergeC
  rw [upT_len _ _ _ (fun i hi => rowC_len (by omega)), sumT_add, sum_less (fun i => min (right.length + 1) (both.length + 1 - i)) (by simp)]
  rfl
theorem outsF_size : ∀ (n most : Nat) (lits : List Int) (next : Nat), lits.length ≤ n + 1 → (outsF n most lits next).cls.length = (sizeF n lits.length most).1 ∧ (outsF n most lits next).next = next + (sizeF n lits.length most).2
  | 0, most, lits, next, h => by simp [outsF, sizeF]
  | n + 1, most, lits, next, h => by
    unfold outsF sizeF
    by_cases hl : lits.length ≤ 1
    · rw [if_pos hl, if_pos hl]; simp
    · rw [if_neg hl, if_neg hl]
      dsimp only
      have h1 : (lits.take (lits.length / 2)).length = lits.length / 2 := by rw [List.length_take]; omega
      have h2 : (lits.drop (lits.length / 2)).length = lits.length - lits.length / 2 := by rw [List.length_drop]
      obtain ⟨a1, a2⟩ := outsF_size n most (lits.take (lits.length / 2)) next (by omega)
      have la := outsF_len n most (lits.take (lits.length / 2)) next (by omega)
      rw [h1] at a1 a2 la
      generalize outsF n most (lits.take (lits.length / 2)) next = a at a1 a2 la
      obtain ⟨b1, b2⟩ := outsF_size n most (lits.drop (lits.length / 2)) a.next (by omega)
      have lb := outsF_len n most (lits.drop (lits.length / 2)) a.next (by omega)
      rw [h2] at b1 b2 lb
      generalize outsF n most (lits.drop (lits.length / 2)) a.next = b at b1 b2 lb
      simp only [List.length_append]
      rw [mergeC_len (by rw [fresh_len]; omega), fresh_len, a1, b1, la, lb]
      refine ⟨by omega, by omega⟩
theorem outsF_next (n most : Nat) (lits : List Int) (next : Nat) (h : lits.length ≤ n + 1) : next ≤ (outsF n most lits next).next := by
  rw [(outsF_size n most lits next h).2]; omega
/-- A literal of a variable below. -/
def Lt (N : Nat) (x : Int) : Prop := x ≠ 0 ∧ x.natAbs < N
theorem Lt.mono {N N' : Nat} {x : Int} (h : Lt N x) (hN : N ≤ N') : Lt N' x := ⟨h.1, Nat.lt_of_lt_of_le h.2 hN⟩
theorem Lt.neg {N : Nat} {x : Int} (h : Lt N x) : Lt N (-x) := ⟨by have := h.1; omega, by rw [Int.natAbs_neg]; exact h.2⟩
theorem getD_memT {l : List Int} {i : Nat} (h : i < l.length) : l.getD i 0 ∈ l := by simp [List.getD, List.getElem?_eq_getElem h]
theorem mergeC_lt {left right both : List Int} {N : Nat} (h1 : ∀ x ∈ left, Lt N x) (h2 : ∀ x ∈ right, Lt N x) (h3 : ∀ x ∈ both, Lt N x) (hl : left.length ≤ both.length) : ∀ c ∈ mergeC left right both, c.length ≤ 3 ∧ ∀ x ∈ c, Lt N x := by
  intro c hc
  obtain ⟨i, hi, hc⟩ := upT_mem.1 hc
  obtain ⟨j, hj, hc⟩ := upT_mem.1 hc
  have hj2 : j ≤ right.length ∧ i + j ≤ both.length := by omega
  rcases List.mem_append.1 hc with hc | hc
  · split at hc
    · rename_i h0
      obtain rfl := List.mem_singleton.1 hc
      have hb := h3 _ (getD_memT (l := both) (i := i + j - 1) (by omega))
      unfold alC
      refine ⟨by simp only [List.length_append]; split <;> split <;> simp, fun x hx => ?_⟩
      rcases List.mem_append.1 hx with hx | hx
      · rcases List.mem_append.1 hx with hx | hx
        · obtain rfl := List.mem_singleton.1 hx; exact hb
        · split at hx
          · obtain rfl := List.mem_singleton.1 hx
            exact (h1 _ (getD_memT (by omega))).neg
          · cases hx
      · split at hx
        · obtain rfl := List.mem_singleton.1 hx
          exact (h2 _ (getD_memT (by omega))).neg
        · cases hx
    · cases hc
  · split at hc
    · rename_i h0
      obtain rfl := List.mem_singleton.1 hc
      have hb := h3 _ (getD_memT (l := both) (i := i + j) (by omega))
      unfold amC
      refine ⟨by simp only [List.length_append]; split <;> split <;> simp, fun x hx => ?_⟩
      rcases List.mem_append.1 hx with hx | hx
      · rcases List.mem_append.1 hx with hx | hx
        · obtain rfl := List.mem_singleton.1 hx; exact hb.neg
        · split at hx
          · obtain rfl := List.mem_singleton.1 hx
            exact h1 _ (getD_memT (by omega))
          · cases hx
      · split at hx
        · obtain rfl := List.mem_singleton.1 hx
          exact h2 _ (getD_memT (by omega))
        · cases hx
    · cases hc
theorem outsF_lt : ∀ (n most : Nat) (lits : List Int) (next : Nat), lits.length ≤ n + 1 → 1 ≤ next → (∀ x ∈ lits, Lt next x) → (∀ x ∈ (outsF n most lits next).out, Lt (outsF n most lits next).next x) ∧ ∀ c ∈ (outsF n most lits next).cls, c.length ≤ 3 ∧ ∀ x ∈ c, Lt (outsF n most lits next).next x
  | 0, most, lits, next, h, h0, hl => by
    refine ⟨fun x hx => hl x (List.mem_of_mem_take hx), fun c hc => by cases hc⟩
  | n + 1, most, lits, next, h, h0, hl => by
    unfold outsF
    by_cases h1 : lits.length ≤ 1
    · rw [if_pos h1]
      exact ⟨fun x hx => hl x (List.mem_of_mem_take hx), fun c hc => by cases hc⟩
    · rw [if_neg h1]
      dsimp only
      have la := outsF_len n most (lits.take (lits.length / 2)) next (by rw [List.length_take]; omega)
      have na := outsF_next n most (lits.take (lits.length / 2)) next (by rw [List.length_take]; omega)
      have ia := outsF_lt n most (lits.take (lits.length / 2)) next (by rw [List.length_take]; omega) h0 (fun x hx => hl x (List.mem_of_mem_take hx))
      generalize outsF n most (lits.take (lits.length / 2)) next = a at la na ia
      have lb := outsF_len n most (lits.drop (lits.length / 2)) a.next (by rw [List.length_drop]; omega)
      have nb := outsF_next n most (lits.drop (lits.length / 2)) a.next (by rw [List.length_drop]; omega)
      have ib := outsF_lt n most (lits.drop (lits.length / 2)) a.next (by rw [List.length_drop]; omega) (by omega) (fun x hx => (hl x (List.mem_of_mem_drop hx)).mono na)
      generalize outsF n most (lits.drop (lits.length / 2)) a.next = b at lb nb ib
      rw [List.length_take] at la
      have hf : ∀ x ∈ freshL b.next (min (a.out.length + b.out.length) most), Lt (b.next + min (a.out.length + b.out.length) most) x := by
        intro x hx
        obtain ⟨i, hi, rfl⟩ := fresh_mem.1 hx
        exact ⟨by omega, by omega⟩
      refine ⟨hf, fun c hc => ?_⟩
      rcases List.mem_append.1 hc with hc | hc
      · rcases List.mem_append.1 hc with hc | hc
        · exact ⟨(ia.2 c hc).1, fun x hx => ((ia.2 c hc).2 x hx).mono (by omega)⟩
        · exact ⟨(ib.2 c hc).1, fun x hx => ((ib.2 c hc).2 x hx).mono (by omega)⟩
      · exact mergeC_lt (fun x hx => (ia.1 x hx).mono (by omega)) (fun x hx => (ib.1 x hx).mono (by omega)) hf (by rw [fresh_len]; omega) c hc
end Go.Proofs.Ytionibckeicncaa
