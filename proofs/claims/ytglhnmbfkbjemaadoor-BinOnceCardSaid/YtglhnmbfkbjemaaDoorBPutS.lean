/- What bin.Put writes, piece by piece, on plain lists. -/
import Derived.Test.YtglhnmbfkbjemaaDoorBInC
import Derived.Test.YtglhnmbfkbjemaaDoorBInB
import Derived.Test.YtglhnmbfkbjemaaDoorNWide
namespace Go.Proofs.YtglhnmbfkbjemaaDoor
open Go Go.RowKit Go.Joins

theorem getD_app1 {α : Type} (a b : List α) (k : Nat) (d : α) (h : k < a.length) : (a ++ b).getD k d = a.getD k d := by
  simp [List.getD, List.getElem?_append_left h]
theorem getD_app2 {α : Type} (a b : List α) (n k : Nat) (d : α) (h : a.length = n) : (a ++ b).getD (n + k) d = b.getD k d := by
  subst h
  unfold List.getD
  rw [List.getElem?_append_right (by omega), Nat.add_sub_cancel_left]
theorem getD_map' {α β : Type} (f : α → β) (l : List α) (k : Nat) (d : β) (d' : α) (h : k < l.length) : (l.map f).getD k d = f (l.getD k d') := by
  simp [List.getD, h]
def gateB (t : Tri) : List UInt8 := encL (t.1 - t.2.1) ++ encL (t.2.1 - t.2.2)
/-- The pieces behind the first line. -/
def chunksB (r : RawC) : List (List UInt8) :=
  r.lats.map (fun t => lineOf (blatNums t)) ++ (r.outs.map (fun x => lineOf [x]) ++ (r.bads.map (fun x => lineOf [x]) ++ (r.cons.map (fun x => lineOf [x]) ++ r.gates.map gateB)))
/-- The first line and j pieces. -/
def accB (r : RawC) (j : Nat) : List UInt8 := (binText ++ lineOf (countsOf r)) ++ ((chunksB r).take j).flatten
theorem accB_zero (r : RawC) : accB r 0 = binText ++ lineOf (countsOf r) := by simp [accB]
theorem accB_step (r : RawC) (j : Nat) (l : List UInt8) (hj : j < (chunksB r).length) (hl : (chunksB r).getD j [] = l) : accB r (j + 1) = accB r j ++ l := by
  have e : (chunksB r).take (j + 1) = (chunksB r).take j ++ [l] := by
    rw [List.take_succ_eq_append_getElem hj, ← hl]
    simp [List.getD, List.getElem?_eq_getElem hj]
  unfold accB
  rw [e]
  simp
section
variable {r : RawC} {n2 n3 n4 n5 n6 : Nat} (h2 : r.lats.length = n2) (h3 : r.outs.length = n3) (h4 : r.bads.length = n4) (h5 : r.cons.length = n5) (h6 : r.gates.length = n6)
include h2
theorem chunk2 (k : Nat) (hk : k < n2) : (chunksB r).getD k [] = lineOf (blatNums (r.lats.getD k (0, 0, 0))) := by
  unfold chunksB
  rw [getD_app1 _ _ _ _ (by simp; omega), getD_map' _ _ _ _ (0, 0, 0) (by omega)]
include h3
theorem chunk3 (k : Nat) (hk : k < n3) : (chunksB r).getD (n2 + k) [] = lineOf [r.outs.getD k 0] := by
  unfold chunksB
  rw [getD_app2 _ _ n2 _ _ (by simp; omega), getD_app1 _ _ _ _ (by simp; omega), getD_map' _ _ _ _ 0 (by omega)]
include h4
theorem chunk4 (k : Nat) (hk : k < n4) : (chunksB r).getD (n2 + n3 + k) [] = lineOf [r.bads.getD k 0] := by
  unfold chunksB
  rw [Nat.add_assoc n2 n3 k, getD_app2 _ _ n2 _ _ (by simp; omega), getD_app2 _ _ n3 _ _ (by simp; omega), getD_app1 _ _ _ _ (by simp; omega), getD_map' _ _ _ _ 0 (by omega)]
include h5
theorem chunk5 (k : Nat) (hk : k < n5) : (chunksB r).getD (n2 + n3 + n4 + k) [] = lineOf [r.cons.getD k 0] := by
  unfold chunksB
  rw [Nat.add_assoc (n2 + n3) n4 k, Nat.add_assoc n2 n3 (n4 + k), getD_app2 _ _ n2 _ _ (by simp; omega), getD_app2 _ _ n3 _ _ (by simp; omega), getD_app2 _ _ n4 _ _ (by simp; omega), getD_app1 _ _ _ _ (by simp; omega), getD_map' _ _ _ _ 0 (by omega)]
include h6
theorem chunk6 (k : Nat) (hk : k < n6) : (chunksB r).getD (n2 + n3 + n4 + n5 + k) [] = gateB (r.gates.getD k (0, 0, 0)) := by
  unfold chunksB
  rw [Nat.add_assoc (n2 + n3 + n4) n5 k, Nat.add_assoc (n2 + n3) n4 (n5 + k), Nat.add_assoc n2 n3 (n4 + (n5 + k)), getD_app2 _ _ n2 _ _ (by simp; omega), getD_app2 _ _ n3 _ _ (by simp; omega), getD_app2 _ _ n4 _ _ (by simp; omega), getD_app2 _ _ n5 _ _ (by simp; omega), getD_map' _ _ _ _ (0, 0, 0) (by omega)]
theorem chunks_count : (chunksB r).length = n2 + n3 + n4 + n5 + n6 := by
  unfold chunksB
  simp
  omega
end
theorem encL_len (n : Nat) : (encL n).length ≤ 5 := (dEnc_len 4 n).2
theorem chunk_len {r : RawC} (hv : ValidR r) : ∀ c ∈ chunksB r, c.length ≤ 60 := by
  have hmax := hv.max
  have one : ∀ x : Nat, x ≤ 2 * r.max + 1 → (lineOf [x]).length ≤ 60 := fun x hx => by
    have := bodyOf_len [x] (fun y hy => by simp at hy; omega)
    unfold lineOf
    simp at this ⊢
    omega
  intro c hc
  unfold chunksB at hc
  simp only [List.mem_append, List.mem_map] at hc
  rcases hc with ⟨t, ht, rfl⟩ | ⟨x, hx, rfl⟩ | ⟨x, hx, rfl⟩ | ⟨x, hx, rfl⟩ | ⟨t, ht, rfl⟩
  · obtain ⟨l1, l2, l3⟩ := hv.la t ht
    have hr : t.2.2 ≤ 2 * r.max + 1 := by
      unfold mayReset at l3
      simp at l3
      omega
    unfold blatNums
    split
    · exact one _ l2
    · have := bodyOf_len [t.2.1, t.2.2] (fun y hy => by simp at hy; omega)
      unfold lineOf
      simp at this ⊢
      omega
  · exact one x (hv.o x hx)
  · exact one x (hv.b x hx)
  · exact one x (hv.c x hx)
  · unfold gateB
    have e1 := encL_len (t.1 - t.2.1)
    have e2 := encL_len (t.2.1 - t.2.2)
    simp; omega
theorem flatten_len (m : Nat) : ∀ (l : List (List UInt8)), (∀ c ∈ l, c.length ≤ m) → l.flatten.length ≤ m * l.length
  | [], _ => by simp
  | c :: l, h => by
    have ih := flatten_len m l (fun x hx => h x (List.mem_cons_of_mem _ hx))
    have h1 := h c (List.mem_cons_self)
    rw [List.flatten_cons, List.length_append, List.length_cons, Nat.mul_add]
    omega
theorem accB_len {r : RawC} (hv : ValidR r) (j : Nat) : (accB r j).length ≤ 60 * (chunksB r).length + 300 := by
  have h1 := flatten_len 60 ((chunksB r).take j) (fun c hc => chunk_len hv c (List.mem_of_mem_take hc))
  have h2 : ((chunksB r).take j).length ≤ (chunksB r).length := by rw [List.length_take]; omega
  have h3 := bodyOf_len (countsOf r) (fun x hx => by have := counts_small hv x hx; omega)
  have h4 := counts_len r
  have h5 : 60 * ((chunksB r).take j).length ≤ 60 * (chunksB r).length := Nat.mul_le_mul (Nat.le_refl _) h2
  have h6 : binText.length = 4 := rfl
  have h7 : (lineOf (countsOf r)).length = (bodyOf (countsOf r)).length + 1 := by simp [lineOf]
  unfold accB
  rw [List.length_append, List.length_append]
  omega

theorem upFrom_cons' {α : Type} (f : Nat → Nat × Nat → α) (b : Nat) (p : Nat × Nat) (l : List (Nat × Nat)) : upFrom f b (p :: l) = f b p :: upFrom f (b + 1) l := by
  unfold upFrom
  rw [List.length_cons, List.range_succ_eq_map, List.map_cons, List.map_map]
  congr 1
  apply List.map_congr_left
  intro i _
  simp [Nat.add_comm, Nat.add_left_comm]
theorem lats_flat : ∀ (l : List (Nat × Nat)) (b : Nat), ((upFrom latR b l).map (fun t => lineOf (blatNums t))).flatten = bLats (2 * b) l
  | [], _ => rfl
  | p :: l, b => by
    rw [upFrom_cons', List.map_cons, List.flatten_cons, lats_flat l (b + 1)]
    rfl
theorem gates_flat : ∀ (l : List (Nat × Nat)) (b : Nat), ((upFrom gateR b l).map gateB).flatten = putG (2 * b) l
  | [], _ => rfl
  | (x, y) :: l, b => by
    rw [upFrom_cons', List.map_cons, List.flatten_cons, gates_flat l (b + 1)]
    show (encL (2 * b - x) ++ encL (x - y)) ++ putG (2 * (b + 1)) l = encL (2 * b - x) ++ (encL (x - y) ++ putG (2 * b + 2) l)
    rw [List.append_assoc, show 2 * (b + 1) = 2 * b + 2 by omega]
theorem ones_flat : ∀ (l : List Nat), (l.map (fun x => lineOf [x])).flatten = linesOf (l.map fun x => [x])
  | [] => rfl
  | x :: l => by rw [List.map_cons, List.flatten_cons, ones_flat l]; rfl
theorem accB_full (c : NormC) (j : Nat) (hj : (chunksB (rawS c)).length ≤ j) : accB (rawS c) j = putB c := by
  unfold accB putB
  rw [List.take_of_length_le hj]
  unfold chunksB
  rw [List.flatten_append, List.flatten_append, List.flatten_append, List.flatten_append]
  show (binText ++ lineOf (countsOf (rawS c))) ++ (((upFrom latR (1 + c.ins.toNat) c.lats).map (fun t => lineOf (blatNums t))).flatten ++ ((c.outs.map (fun x => lineOf [x])).flatten ++ ((c.bads.map (fun x => lineOf [x])).flatten ++ ((c.cons.map (fun x => lineOf [x])).flatten ++ ((upFrom gateR (1 + c.ins.toNat + c.lats.length) c.gates).map gateB).flatten)))) = _
  rw [lats_flat, gates_flat, ones_flat, ones_flat, ones_flat, List.append_assoc]

/-- What is cut out of the text for the first line. -/
theorem text_first (r : RawC) : lineL (textOf r) = 4 + (lineOf (countsOf r)).length ∧ ((textOf r).take (lineL (textOf r))).drop 3 = 32 :: lineOf (countsOf r) ∧ lineL (textOf r) ≤ (textOf r).length := by
  have hfree : ∀ c ∈ headText ++ bodyOf (countsOf r), c ≠ 10 := by
    intro c hc
    rcases List.mem_append.1 hc with h | h
    · simp [headText] at h; rcases h with rfl | rfl | rfl <;> decide
    · exact body_free _ c h
  have e : textOf r = (headText ++ bodyOf (countsOf r)) ++ 10 :: linesOf (bodyLines r) := by simp [textOf, lineOf]
  have hc := cut_line (headText ++ bodyOf (countsOf r)) (linesOf (bodyLines r)) hfree
  rw [← e] at hc
  have hA : ahead (textOf r) = (headText ++ bodyOf (countsOf r)).length ∧ ahead (textOf r) < (textOf r).length := by
    unfold cutS at hc
    split at hc
    · next h =>
      have h1 := congrArg (fun x => (x.map fun y => y.1.length).getD 0) hc
      simp only [Option.map_some, Option.getD_some, List.length_take] at h1
      exact ⟨by omega, h⟩
    · cases hc
  have hz : lineL (textOf r) = (headText ++ bodyOf (countsOf r)).length + 1 := by unfold lineL; rw [if_pos hA.2, hA.1]
  refine ⟨by rw [hz]; simp [headText, lineOf]; omega, ?_, lineL_le _⟩
  have ht : (textOf r).take (lineL (textOf r)) = headText ++ lineOf (countsOf r) := by
    have e2 : textOf r = (headText ++ lineOf (countsOf r)) ++ linesOf (bodyLines r) := by simp [textOf]
    have hl : lineL (textOf r) = (headText ++ lineOf (countsOf r)).length := by rw [hz]; simp [lineOf]; omega
    rw [hl]
    conv => lhs; rw [e2]
    exact List.take_left
  rw [ht]
  rfl
end Go.Proofs.YtglhnmbfkbjemaaDoor
