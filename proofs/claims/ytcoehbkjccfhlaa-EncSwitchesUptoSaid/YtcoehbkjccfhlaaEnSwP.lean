/- The clauses of a gate, counted. -/
import Derived.Test.YtcoehbkjccfhlaaNSpec
import Derived.Test.YtcoehbkjccfhlaaEnPure
import Derived.Test.YtcoehbkjccfhlaaRows
import Derived.BigQuiet
import Derived.Deep.AppendLies
import Derived.Deep.CutRange
import Derived.Deep.QuietTactic
import Derived.Deep.RegionHeld3
import Derived.Deep.RegionLaw
import Derived.Deep.RegionWith
import Derived.KernelRfl
import Derived.Laws.EntriesVeiled
import Derived.Laws.Tables
import Derived.Lib.ConvBytes
import Derived.Lib.Hide
import Derived.Lib.SlBytesRow
import Derived.Lib.SmallJoins
import Derived.Maps.AppendAt
import Derived.Shelf.Bytes.SlSmallAll
import Derived.WalkKit
import Derived.WalkLawsBesides
import Derived.WalkSpells
namespace Go.Proofs.Ytcoehbkjccfhlaa
open Go Go.RowKit Go.Joins

/-- How many of these clauses are of the gate j. -/
def cntE (T : List TCl) (j : Nat) : Nat := T.countP (fun t => decide (t.1 = (j : Int)))
theorem cntE_append (a b : List TCl) (j : Nat) : cntE (a ++ b) j = cntE a j + cntE b j := by simp [cntE, List.countP_append]
theorem cntE_none {T : List TCl} {j : Nat} (h : ∀ t ∈ T, t.1 = -1) : cntE T j = 0 := by
  unfold cntE
  rw [List.countP_eq_zero]
  intro t ht
  simp only [decide_eq_true_eq]
  rw [h t ht]
  omega
theorem latsE_tag {c : NormC} {f : Nat} : ∀ t ∈ latsE c f, t.1 = -1 ∧ t.2.length ≤ 3 := by
  intro t ht
  unfold latsE at ht
  split at ht
  · obtain ⟨i, _, hi⟩ := upE_mem.1 ht
    unfold resetE at hi
    split at hi
    · simp at hi; subst hi; simp
    · split at hi
      · simp at hi; subst hi; simp
      · simp at hi
  · obtain ⟨i, _, hi⟩ := upE_mem.1 ht
    simp [nextE] at hi
    rcases hi with rfl | rfl <;> simp
theorem gatesE_tag {c : NormC} {f k : Nat} : ∀ t ∈ upE (gateE c f) k, (∃ g : Nat, g < k ∧ t.1 = (g : Int)) ∧ t.2.length ≤ 3 := by
  intro t ht
  obtain ⟨i, hi, h⟩ := upE_mem.1 ht
  simp [gateE] at h
  rcases h with rfl | rfl | rfl <;> exact ⟨⟨i, hi, rfl⟩, by simp⟩
theorem allE_tag {c : NormC} {nf : Nat} : ∀ t ∈ allE c nf, (t.1 = -1 ∨ ∃ g : Nat, g < c.gates.length ∧ t.1 = (g : Int)) ∧ t.2.length ≤ 3 := by
  intro t ht
  unfold allE at ht
  rcases List.mem_cons.1 ht with rfl | ht
  · exact ⟨.inl rfl, by simp⟩
  · obtain ⟨f, _, h⟩ := upE_mem.1 ht
    unfold frameE at h
    rcases List.mem_append.1 h with h | h
    · exact ⟨.inl (latsE_tag t h).1, (latsE_tag t h).2⟩
    · exact ⟨.inr (gatesE_tag t h).1, (gatesE_tag t h).2⟩
theorem cnt_gates (c : NormC) (f j : Nat) : ∀ k, cntE (upE (gateE c f) k) j = if j < k then 3 else 0
  | 0 => by simp [upE_zero, cntE]
  | k + 1 => by
    rw [upE_succ, cntE_append, cnt_gates c f j k]
    by_cases h : k = j
    · subst h
      simp [gateE, cntE]
    · have : cntE (gateE c f k) j = 0 := by
        simp [gateE, cntE, List.countP_cons]
        omega
      rw [this]
      split <;> split <;> omega
theorem cnt_all (c : NormC) (j : Nat) (hj : j < c.gates.length) : ∀ nf, cntE (allE c nf) j = 3 * nf
  | 0 => by
    have : cntE (allE c 0) j = 0 := cntE_none (fun t ht => by simp [allE, upE_zero] at ht; rw [ht])
    omega
  | k + 1 => by
    rw [allE_succ, cntE_append, cntE_append, cnt_all c j hj k, cnt_gates, if_pos hj, cntE_none (fun t ht => (latsE_tag t ht).1)]
    omega
theorem cnt_snoc (T : List TCl) (k j : Nat) (h : k < T.length) (d : TCl) : cntE (T.take (k + 1)) j = cntE (T.take k) j + if (T.getD k d).1 = (j : Int) then 1 else 0 := by
  rw [List.take_succ_eq_append_getElem h, cntE_append]
  congr 1
  simp only [List.getD, List.getElem?_eq_getElem h, Option.getD_some]
  by_cases e : T[k].1 = (j : Int) <;> simp [cntE, e]
theorem cntE_le (T : List TCl) (j : Nat) : cntE T j ≤ T.length := List.countP_le_length
theorem map_getD {f : TCl → List Int} {T : List TCl} {k : Nat} (h : k < T.length) (d : TCl) : (T.map f).getD k [] = f (T.getD k d) := by
  simp [List.getD, List.getElem?_eq_getElem h]
/-- With few gates and frames there are few clauses. -/
theorem many_few {c : NormC} {nf : Nat} (h1 : c.lats.length ≤ 200) (h2 : c.gates.length ≤ 200) (h3 : nf ≤ 60) : manyE c nf ≤ 1048576 := by
  have a1 : 2 * c.lats.length * (nf - 1) ≤ 400 * 60 := Nat.mul_le_mul (by omega) (by omega)
  have a2 : 3 * c.gates.length * nf ≤ 600 * 60 := Nat.mul_le_mul (by omega) h3
  have a3 := fixedE_le c c.lats.length
  unfold manyE
  omega
end Go.Proofs.Ytcoehbkjccfhlaa
