/- clause.Must: its answer on plain lists. -/
import Derived.Test.YtdngaohjocokiaaCuPure
import Derived.Test.YtdngaohjocokiaaCuInv
import Derived.Test.YtdngaohjocokiaaCuAllP
import Derived.Test.YtdngaohjocokiaaRows
import Derived.Test.YtdngaohjocokiaaShelf
import Derived.BigQuiet
import Derived.Conc.LoneSelect
import Derived.Deep.AppendLies
import Derived.Deep.CutRange
import Derived.Deep.QuietTactic
import Derived.Deep.RegionLaw
import Derived.Deep.RegionWith
import Derived.KernelRfl
import Derived.Laws.CopyOwn
import Derived.Laws.EntriesVeiled
import Derived.Lib.ConvBytes
import Derived.Lib.Hide
import Derived.Lib.SlBytesRow
import Derived.Lib.SlicesCompact
import Derived.Lib.SmallJoins
import Derived.Shelf.Bytes.SlSmallAll
import Derived.Sort.Statements
import Derived.WalkKit
import Derived.WalkLawsBesides
import Derived.WalkSpells
namespace Go.Proofs.Ytdngaohjocokiaa
open Go

theorem addS_len (o : List Int) (x : Int) : (addS o x).length ≤ o.length + 1 := by
  unfold addS
  split
  · omega
  · rw [into_len]; omega
theorem fold_len : ∀ (c o : List Int), (c.foldl addS o).length ≤ o.length + c.length
  | [], o => by simp
  | x :: r, o => by
    rw [List.foldl_cons]
    have h1 := fold_len r (addS o x)
    have h2 := addS_len o x
    simp only [List.length_cons]
    omega
theorem ordL_len (c : List Int) : (ordL c).length ≤ c.length := by
  have := fold_len c []
  simpa [ordL] using this
theorem total_cons (c : List Int) (L : List (List Int)) : total (c :: L) = c.length + total L := by simp [total]
theorem total_ordAll : ∀ L : List (List Int), total (ordAll L) ≤ total L
  | [] => by simp [ordAll, total]
  | c :: L => by
    have ih := total_ordAll L
    rw [total_cons]
    unfold ordAll at ih ⊢
    cases hq : orderS c with
    | none => rw [List.filterMap_cons_none hq]; omega
    | some d =>
      rw [List.filterMap_cons_some hq, total_cons]
      have := (orderS_some hq).2
      subst this
      have := ordL_len c
      omega
theorem ordAll_len (L : List (List Int)) : (ordAll L).length ≤ L.length := List.length_filterMap_le _ _
theorem ordAll_one {L : List (List Int)} {c : List Int} (h : c ∈ ordAll L) : ∃ c0, c0 ∈ L ∧ c.length ≤ c0.length := by
  obtain ⟨c0, h1, h2⟩ := List.mem_filterMap.1 h
  obtain ⟨_, rfl⟩ := orderS_some h2
  exact ⟨c0, h1, ordL_len c0⟩

/-- The two literals of a variable. -/
def two (v : Nat) : List Int := [(v : Int), -(v : Int)]
/-- What was sent, by ascending variables. -/
def sorted (S : List Int) : Nat → List Int
  | 0 => []
  | v + 1 => sorted S v ++ (two (v + 1)).filter fun x => decide (x ∈ S)
theorem mem_sorted {S : List Int} {x : Int} : ∀ {v : Nat}, x ∈ sorted S v ↔ x ∈ S ∧ x ≠ 0 ∧ x.natAbs ≤ v
  | 0 => by simp [sorted]
  | v + 1 => by
    rw [sorted, List.mem_append, mem_sorted (v := v), List.mem_filter]
    simp only [two, List.mem_cons, List.not_mem_nil, or_false, decide_eq_true_eq]
    constructor
    · rintro (⟨h1, h2, h3⟩ | ⟨h1, h2⟩)
      · exact ⟨h1, h2, by omega⟩
      · exact ⟨h2, by omega, by omega⟩
    · rintro ⟨h1, h2, h3⟩
      by_cases h : x.natAbs ≤ v
      · exact .inl ⟨h1, h2, h⟩
      · exact .inr ⟨by omega, h1⟩
theorem asc_sorted {S : List Int} (h : ∀ x, x ∈ S → -x ∉ S) : ∀ v : Nat, Asc (sorted S v)
  | 0 => asc_nil
  | v + 1 => by
    rw [sorted]
    unfold Asc
    rw [List.pairwise_append]
    refine ⟨asc_sorted h v, ?_, fun a ha b hb => ?_⟩
    · have hp : ((two (v + 1)).filter fun x => decide (x ∈ S)).length ≤ 1 := by
        unfold two
        by_cases h1 : ((v + 1 : Nat) : Int) ∈ S
        · have h2 := h _ h1
          rw [List.filter_cons_of_pos (by simpa using h1), List.filter_cons_of_neg (by simpa using h2)]
          simp
        · rw [List.filter_cons_of_neg (by simpa using h1)]
          exact Nat.le_trans (List.length_filter_le _ _) (by simp)
      generalize (two (v + 1)).filter (fun x => decide (x ∈ S)) = F at hp
      match F, hp with
      | [], _ => exact List.Pairwise.nil
      | [a], _ => simp
      | _ :: _ :: _, h => simp at h
    · have h1 := (mem_sorted.1 ha).2.2
      have h2 := (List.mem_filter.1 hb).1
      simp only [two, List.mem_cons, List.not_mem_nil, or_false] at h2
      omega
theorem sorted_is {cls : List (List Int)} {given S : List Int} {vars : Nat} (h : ∀ l, l ∈ S ↔ Der cls given l) (hc : ¬ Clash cls given) (hv : ∀ x, x ∈ S → VLit vars x) : IsMust cls given (sorted S vars) := by
  have hn : ∀ x, x ∈ S → -x ∉ S := fun x hx hx2 => hc (.inl ⟨x, (h x).1 hx, (h _).1 hx2⟩)
  refine ⟨asc_sorted hn vars, fun l => mem_sorted.trans ⟨fun hl => (h l).1 hl.1, fun hl => ⟨(h l).2 hl, (hv l ((h l).2 hl)).1, (hv l ((h l).2 hl)).2⟩⟩, hc⟩
theorem sorted_len {S : List Int} : ∀ v : Nat, (sorted S v).length ≤ 2 * v
  | 0 => Nat.le_refl _
  | v + 1 => by
    rw [sorted, List.length_append]
    have := sorted_len (S := S) v
    have := List.length_filter_le (fun x => decide (x ∈ S)) (two (v + 1))
    have e : (two (v + 1)).length = 2 := rfl
    omega
/-- .. and the first j literals of variable v + 1. -/
def sortedTo (S : List Int) (v j : Nat) : List Int := sorted S v ++ ((two (v + 1)).take j).filter fun x => decide (x ∈ S)
theorem sortedTo_zero (S : List Int) (v : Nat) : sortedTo S v 0 = sorted S v := by simp [sortedTo]
theorem sortedTo_two (S : List Int) (v : Nat) : sortedTo S v 2 = sorted S (v + 1) := rfl
theorem sortedTo_next (S : List Int) (v j : Nat) (h : j < 2) : sortedTo S v (j + 1) = sortedTo S v j ++ (if (two (v + 1)).getD j 0 ∈ S then [(two (v + 1)).getD j 0] else []) := by
  unfold sortedTo
  rw [take_snocZ (two (v + 1)) j h, List.filter_append, List.append_assoc]
  congr 2
  by_cases hq : (two (v + 1)).getD j 0 ∈ S
  · rw [List.filter_cons_of_pos (by simpa using hq), if_pos hq]; rfl
  · rw [List.filter_cons_of_neg (by simpa using hq), if_neg hq]; rfl
theorem sortedTo_len (S : List Int) (v j : Nat) : (sortedTo S v j).length ≤ 2 * v + 2 := by
  unfold sortedTo
  rw [List.length_append]
  have h1 := sorted_len (S := S) v
  have h2 := List.length_filter_le (fun x => decide (x ∈ S)) ((two (v + 1)).take j)
  have h3 : ((two (v + 1)).take j).length ≤ 2 := by rw [List.length_take]; exact Nat.min_le_right _ _
  omega
end Go.Proofs.Ytdngaohjocokiaa
