/- bin.appendDelta, by its contract, once more: blocks of other types stay. -/
import Derived.Test.YtglhnmbfkbjemaaGreatDoorBkF
import Derived.Test.YtglhnmbfkbjemaaGreatDoorBkE
import Derived.Test.YtglhnmbfkbjemaaGreatDoorBkD
import Derived.Test.YtglhnmbfkbjemaaGreatDoorBkA
/- The numbers of a circuit's lists are of 32 bits. -/
namespace Go.Proofs.YtglhnmbfkbjemaaGreatDoor
open Go Go.RowKit Go.Joins
structure Wide (c : NormC) : Prop where
  lats : ∀ p ∈ c.lats, p.1 < 4294967296 ∧ p.2 < 256
  gates : ∀ p ∈ c.gates, p.1 < 4294967296 ∧ p.2 < 4294967296
  outs : ∀ x ∈ c.outs, x < 4294967296
  bads : ∀ x ∈ c.bads, x < 4294967296
  cons : ∀ x ∈ c.cons, x < 4294967296
end Go.Proofs.YtglhnmbfkbjemaaGreatDoor
/- What bin.Put writes, piece by piece, on plain lists. -/
namespace Go.Proofs.YtglhnmbfkbjemaaGreatDoor
open Go Go.RowKit Go.Joins
theorem getD_app1 {α : Type} (a b : List α) (k : Nat) (d : α) (h : k < a.length) : (a ++ b).getD k d = a.getD k d := by
  simp [List.getD, List.getElem?_append_left h]
theorem getD_app2 {α : Type} (a b : List α) (n k : Nat) (d : α) (h : a.length = n) : (a ++ b).getD (n + k) d = b.getD k d := by
  subst h
  unfold List.getD
  rw [List.getElem?_append_right (by omega), Nat.add_sub_cancel_left]
theorem getD_map' {α β : Type} (f : α → β) (l : List α) (k : Nat) (d : β) (d' : α) (h : k < l.length) : (l.map f).getD k d = f (l.getD k d') := by
  simp [List.getD, h]
def gateB (t : Tri) : List UInt8 := encL (t.1 - t.2.1) ++ encL (t.2.1 - t.2.2)
def chunksB (r : RawC) : List (List UInt8) :=
  r.lats.map (fun t => lineOf (blatNums t)) ++ (r.outs.map (fun x => lineOf [x]) ++ (r.bads.map (fun x => lineOf [x]) ++ (r.cons.map (fun x => lineOf [x]) ++ r.gates.map gateB)))
def accB (r : RawC) (j : Nat) : List UInt8 := (binText ++ lineOf (countsOf r)) ++ ((chunksB r).take j).flatten
theorem accB_zero (r : RawC) : accB r 0 = binText ++ lineOf (countsOf r) := by simp [accB]
theorem accB_step (r : RawC) (j : Nat) (l : List UInt8) (hj : j < (chunksB r).length) (hl : (chunksB r).getD j [] = l) : accB r (j + 1) = accB r j ++ l := by
  have e : (chunksB r).take (j + 1) = (chunksB r).take j ++ [l] := by
    rw [List.take_succ_eq_append_getElem hj, ← hl]
    simp [List.getD, List.getElem?_eq_getElem hj]
  unfold accB
  rw [e]
  simp
section
variable {r : RawC} {n2 n3 n4 n5 n6 : Nat} (h2 : r.lats.length = n2) (h3 : r.outs.length = n3) (h4 : r.bads.length = n4) (h5 : r.cons.length = n5) (h6 : r.gates.length = n6)
include h2
theorem chunk2 (k : Nat) (hk : k < n2) : (chunksB r).getD k [] = lineOf (blatNums (r.lats.getD k (0, 0, 0))) := by
  unfold chunksB
  rw [getD_app1 _ _ _ _ (by simp; omega), getD_map' _ _ _ _ (0, 0, 0) (by omega)]
include h3
theorem chunk3 (k : Nat) (hk : k < n3) : (chunksB r).getD (n2 + k) [] = lineOf [r.outs.getD k 0] := by
  unfold chunksB
  rw [getD_app2 _ _ n2 _ _ (by simp; omega), getD_app1 _ _ _ _ (by simp; omega), getD_map' _ _ _ _ 0 (by omega)]
include h4
theorem chunk4 (k : Nat) (hk : k < n4) : (chunksB r).getD (n2 + n3 + k) [] = lineOf [r.bads.getD k 0] := by
  unfold chunksB
  rw [Nat.add_assoc n2 n3 k, getD_app2 _ _ n2 _ _ (by simp; omega), getD_app2 _ _ n3 _ _ (by simp; omega), getD_app1 _ _ _ _ (by simp; omega), getD_map' _ _ _ _ 0 (by omega)]
include h5
theorem chunk5 (k : Nat) (hk : k < n5) : (chunksB r).getD (n2 + n3 + n4 + k) [] = lineOf [r.cons.getD k 0] := by
  unfold chunksB
  rw [Nat.add_assoc (n2 + n3) n4 k, Nat.add_assoc n2 n3 (n4 + k), getD_app2 _ _ n2 _ _ (by simp; omega), getD_app2 _ _ n3 _ _ (by simp; omega), getD_app2 _ _ n4 _ _ (by simp; omega), getD_app1 _ _ _ _ (by simp; omega), getD_map' _ _ _ _ 0 (by omega)]
include h6
theorem chunk6 (k : Nat) (hk : k < n6) : (chunksB r).getD (n2 + n3 + n4 + n5 + k) [] = gateB (r.gates.getD k (0, 0, 0)) := by
  unfold chunksB
  rw [Nat.add_assoc (n2 + n3 + n4) n5 k, Nat.add_assoc (n2 + n3) n4 (n5 + k), Nat.add_assoc n2 n3 (n4 + (n5 + k)), getD_app2 _ _ n2 _ _ (by simp; omega), getD_app2 _ _ n3 _ _ (by simp; omega), getD_app2 _ _ n4 _ _ (by simp; omega), getD_app2 _ _ n5 _ _ (by simp; omega), getD_map' _ _ _ _ (0, 0, 0) (by omega)]
theorem chunks_count : (chunksB r).length = n2 + n3 + n4 + n5 + n6 := by
  unfold chunksB
  simp
  omega
end
theorem encL_len (n : Nat) : (encL n).length ≤ 5 := (dEnc_len 4 n).2
theorem chunk_len {r : RawC} (hv : ValidR r) : ∀ c ∈ chunksB r, c.length ≤ 60 := by
  have hmax := hv.max
  have one : ∀ x : Nat, x ≤ 2 * r.max + 1 → (lineOf [x]).length ≤ 60 := fun x hx => by
    have := bodyOf_len [x] (fun y hy => by simp at hy; omega)
    unfold lineOf
    simp at this ⊢
    omega
  intro c hc
  unfold chunksB at hc
  simp only [List.mem_append, List.mem_map] at hc
  rcases hc with ⟨t, ht, rfl⟩ | ⟨x, hx, rfl⟩ | ⟨x, hx, rfl⟩ | ⟨x, hx, rfl⟩ | ⟨t, ht, rfl⟩
  · obtain ⟨l1, l2, l3⟩ := hv.la t ht
    have hr : t.2.2 ≤ 2 * r.max + 1 := by
      unfold mayReset at l3
      simp at l3
      omega
    unfold blatNums
    split
    · exact one _ l2
    · have := bodyOf_len [t.2.1, t.2.2] (fun y hy => by simp at hy; omega)
      unfold lineOf
      simp at this ⊢
      omega
  · exact one x (hv.o x hx)
  · exact one x (hv.b x hx)
  · exact one x (hv.c x hx)
  · unfold gateB
    have e1 := encL_len (t.1 - t.2.1)
    have e2 := encL_len (t.2.1 - t.2.2)
    simp; omega
theorem flatten_len (m : Nat) : ∀ (l : List (List UInt8)), (∀ c ∈ l, c.length ≤ m) → l.flatten.length ≤ m * l.length
  | [], _ => by simp
  | c :: l, h => by
    have ih := flatten_len m l (fun x hx => h x (List.mem_cons_of_mem _ hx))
    have h1 := h c (List.mem_cons_self)
    rw [List.flatten_cons, List.length_append, List.length_cons, Nat.mul_add]
    omega
theorem accB_len {r : RawC} (hv : ValidR r) (j : Nat) : (accB r j).length ≤ 60 * (chunksB r).length + 300 := by
  have h1 := flatten_len 60 ((chunksB r).take j) (fun c hc => chunk_len hv c (List.mem_of_mem_take hc))
  have h2 : ((chunksB r).take j).length ≤ (chunksB r).length := by rw [List.length_take]; omega
  have h3 := bodyOf_len (countsOf r) (fun x hx => by have := counts_small hv x hx; omega)
  have h4 := counts_len r
  have h5 : 60 * ((chunksB r).take j).length ≤ 60 * (chunksB r).length := Nat.mul_le_mul (Nat.le_refl _) h2
  have h6 : binText.length = 4 := rfl
  have h7 : (lineOf (countsOf r)).length = (bodyOf (countsOf r)).length + 1 := by simp [lineOf]
  unfold accB
  rw [List.length_append, List.length_append]
  omega
theorem upFrom_cons' {α : Type} (f : Nat → Nat × Nat → α) (b : Nat) (p : Nat × Nat) (l : List (Nat × Nat)) : upFrom f b (p :: l) = f b p :: upFrom f (b + 1) l := by
  unfold upFrom
  rw [List.length_cons, List.range_succ_eq_map, List.map_cons, List.map_map]
  congr 1
  apply List.map_congr_left
  intro i _
  simp [Nat.add_comm, Nat.add_left_comm]
theorem lats_flat : ∀ (l : List (Nat × Nat)) (b : Nat), ((upFrom latR b l).map (fun t => lineOf (blatNums t))).flatten = bLats (2 * b) l
  | [], _ => rfl
  | p :: l, b => by
    rw [upFrom_cons', List.map_cons, List.flatten_cons, lats_flat l (b + 1)]
    rfl
theorem gates_flat : ∀ (l : List (Nat × Nat)) (b : Nat), ((upFrom gateR b l).map gateB).flatten = putG (2 * b) l
  | [], _ => rfl
  | (x, y) :: l, b => by
    rw [upFrom_cons', List.map_cons, List.flatten_cons, gates_flat l (b + 1)]
    show (encL (2 * b - x) ++ encL (x - y)) ++ putG (2 * (b + 1)) l = encL (2 * b - x) ++ (encL (x - y) ++ putG (2 * b + 2) l)
    rw [List.append_assoc, show 2 * (b + 1) = 2 * b + 2 by omega]
theorem ones_flat : ∀ (l : List Nat), (l.map (fun x => lineOf [x])).flatten = linesOf (l.map fun x => [x])
  | [] => rfl
  | x :: l => by rw [List.map_cons, List.flatten_cons, ones_flat l]; rfl
theorem accB_full (c : NormC) (j : Nat) (hj : (chunksB (rawS c)).length ≤ j) : accB (rawS c) j = putB c := by
  unfold accB putB
  rw [List.take_of_length_le hj]
  unfold chunksB
  rw [List.flatten_append, List.flatten_append, List.flatten_append, List.flatten_append]
  show (binText ++ lineOf (countsOf (rawS c))) ++ (((upFrom latR (1 + c.ins.toNat) c.lats).map (fun t => lineOf (blatNums t))).flatten ++ ((c.outs.map (fun x => lineOf [x])).flatten ++ ((c.bads.map (fun x => lineOf [x])).flatten ++ ((c.cons.map (fun x => lineOf [x])).flatten ++ ((upFrom gateR (1 + c.ins.toNat + c.lats.length) c.gates).map gateB).flatten)))) = _
  rw [lats_flat, gates_flat, ones_flat, ones_flat, ones_flat, List.append_assoc]
theorem text_first (r : RawC) : lineL (textOf r) = 4 + (lineOf (countsOf r)).length ∧ ((textOf r).take (lineL (textOf r))).drop 3 = 32 :: lineOf (countsOf r) ∧ lineL (textOf r) ≤ (textOf r).length := by
  have hfree : ∀ c ∈ headText ++ bodyOf (countsOf r), c ≠ 10 := by
    intro c hc
    rcases List.mem_append.1 hc with h | h
    · simp [headText] at h; rcases h with rfl | rfl | rfl <;> decide
    · exact body_free _ c h
  have e : textOf r = (headText ++ bodyOf (countsOf r)) ++ 10 :: linesOf (bodyLines r) := by simp [textOf, lineOf]
  have hc := cut_line (headText ++ bodyOf (countsOf r)) (linesOf (bodyLines r)) hfree
  rw [← e] at hc
  have hA : ahead (textOf r) = (headText ++ bodyOf (countsOf r)).length ∧ ahead (textOf r) < (textOf r).length := by
    unfold cutS at hc
    split at hc
    · next h =>
      have h1 := congrArg (fun x => (x.map fun y => y.1.length).getD 0) hc
      simp only [Option.map_some, Option.getD_some, List.length_take] at h1
      exact ⟨by omega, h⟩
    · cases hc
  have hz : lineL (textOf r) = (headText ++ bodyOf (countsOf r)).length + 1 := by unfold lineL; rw [if_pos hA.2, hA.1]
  refine ⟨by rw [hz]; simp [headText, lineOf]; omega, ?_, lineL_le _⟩
  have ht : (textOf r).take (lineL (textOf r)) = headText ++ lineOf (countsOf r) := by
    have e2 : textOf r = (headText ++ lineOf (countsOf r)) ++ linesOf (bodyLines r) := by simp [textOf]
    have hl : lineL (textOf r) = (headText ++ lineOf (countsOf r)).length := by rw [hz]; simp [lineOf]; omega
    rw [hl]
    conv => lhs; rw [e2]
    exact List.take_left
  rw [ht]
  rfl
end Go.Proofs.YtglhnmbfkbjemaaGreatDoor
/- raw.Put's closure, by its contract: it adds a line to the text that it captures. -/
namespace Go.Proofs.YtglhnmbfkbjemaaGreatDoor
open Go Go.RowKit Go.Joins
def Buf (base g : Nat) (w : World) (cur : List UInt8) : Prop := ∃ v, w.heap[g]? = some (.cells #[v] 27 (0, 0)) ∧ Row isByte w base 5 v cur.length (cur.map bv)
def Kept (g : Nat) (w w' : World) : Prop := ∀ D C t fr, w.heap[D]? = some (.cells C t fr) → t ≠ 5 → D ≠ g → w'.heap[D]? = some (.cells C t fr)
theorem Kept.refl (g : Nat) (w : World) : Kept g w w := fun _ _ _ _ h _ _ => h
theorem Kept.trans {g : Nat} {a b c : World} (h : Kept g a b) (k : Kept g b c) : Kept g a c := fun D C t fr hD ht hg => k D C t fr (h D C t fr hD ht hg) ht hg
theorem Kept.below {g : Nat} {a b c : World} (h : Kept g a b) (k : Below b.heap.size b c) : Kept g a c := fun D C t fr hD ht hg => heap_below (h D C t fr hD ht hg) k
theorem add_end {base g : Nat} {w w1 w2 : World} {v v2 : Value} {n n2 : Nat} {xs xs2 : List Value} {cur2 : List UInt8} (hb1 : Below w.heap.size w w1) (hv1 : w1.heap[g]? = some (.cells #[v] 27 (0, 0)))
    (hr1 : Row isByte w1 base 5 v n xs) (hg2 : w1.grownBy w2 v.ownBlock) (r2 : Row isByte w2 base 5 v2 n2 xs2) (hn2 : n2 = cur2.length) (hx2 : xs2 = cur2.map bv) (hbase : base ≤ w.heap.size) (hg : base ≤ g) :
    Buf base g (w2.setCell ⟨g, 0, .none⟩ v2) cur2 ∧ Below base w (w2.setCell ⟨g, 0, .none⟩ v2) ∧ Kept g w (w2.setCell ⟨g, 0, .none⟩ v2) := by
  have hh2 := heap_grown hv1 hg2 (hr1.not_own hv1 (by decide))
  subst hn2; subst hx2
  refine ⟨⟨v2, ?_, ?_⟩, ?_, ?_⟩
  · exact block_setCell hh2 v2
  · refine r2.other fun k hk => ?_
    exact Below.heap_setCell w2 ⟨g, 0, .none⟩ v2 k (fun e => (r2.not_own hh2 (by decide)) (by rw [hk, e]))
  · exact (((hb1.mono hbase).grown hg2 (Nat.le_trans hbase hb1.size) (fun k hk => (hr1.own.lt k hk).1))).setCell hg v2
  · intro D C t fr hD ht hDg
    have h1 := heap_below hD hb1
    have h2 := heap_grown h1 hg2 (hr1.not_own h1 ht)
    exact (Below.heap_setCell w2 ⟨g, 0, .none⟩ v2 D hDg).trans h2
set_option maxRecDepth 100000 in
set_option maxHeartbeats 1600000 in
theorem add_any (base g : Nat) (cur : List UInt8) (l : List Nat) (a : Option Addr) (n c : Nat) (w : World) (hB : Buf base g w cur) (h : Sees w a n c (l.map nv32)) (hn : n ≤ 7) (hcur : cur.length ≤ 1000000000) (h32 : ∀ x ∈ l, x < 4294967296) (htab : Tab w) (hbase : base ≤ w.heap.size) (hg : base ≤ g) :
    Calls Tryz.prog 47 #[.slice a n c, .pointer (some ⟨g, 0, .none⟩)] w fun e w' => e = .returned (.tuple #[]) ∧ Buf base g w' (cur ++ lineOf l) ∧ Below base w w' ∧ Kept g w w' := by
  obtain ⟨i0, hi, hz0, hz1, hz2⟩ := info_parts info_u8
  obtain ⟨v, hv, hrow⟩ := hB
  have hcv := cell_of_block hv 0
  have hcv2 : w.cell? ⟨g, 0, none⟩ = some v := hcv
  have hfz := unfrozen_of_block hv 0
  obtain ⟨va, vc, rfl⟩ := hrow.form
  have HV := Lib.hid hv
  have HR := Lib.hid hrow
  have HS := Lib.hid h
  have HT := Lib.hid htab
  have H32 := Lib.hid h32
  clear hv hcv hrow h htab h32
  go_enter Tryz.func47, Tryz.ntmps47
  have hd : Below w.heap.size w w.drew := (Below.refl _ w).drew
  obtain ⟨T, hT⟩ : ∃ T, T = [] ++ (bodyOf l ++ [10]) := ⟨_, rfl⟩
  have hc0 := (write_any [] l none a 0 0 n c w.drew (Sees.nil _ _ _ (fun _ => rfl)) (HS.out.below hd) (by omega) (by omega) H32.out (HT.out.below hd (Nat.le_refl _)))
  rw [← hT] at hc0
  have HC := Lib.hid hc0
  have HDR := Lib.hid hd
  have hll : T.length ≤ 148 := by
    have h1 := bodyOf_len l H32.out
    have h2 := HS.out.lenMap
    rw [hT]; simp; omega
  have HTT := Lib.hid hT
  clear hd hc0 hT
  go_region_law (first
    | (refine step_append_row isByte _ rfl _ _ 27 rfl base 5 i0 (.int .u8 0) 1 Tryz.underlying27 hi hz0 hz1 hz2 rfl isByte_zero _ _ _ (by simp [Act.eval]) HR1.out _ _ _ _ (by simp [Act.eval]) HS1.out (bv_one _) (isByte_all _) hq4 hq5 hq6 ?_; intro v2 w2 r2 hg2; obtain ⟨a2, c2, rfl⟩ := r2.form; have hh2 := heap_grown HV1.out hg2 (HR1.out.not_own HV1.out (by decide)); have hc2 : w2.cell? ⟨g, 0, none⟩ = some (.slice va cur.length vc) := cell_of_block hh2 0; have hf2 : w2.frozen? ⟨g, 0, none⟩ = false := unfrozen_of_block hh2 0; have HG2 := Lib.hid hg2; have R2 := Lib.hid r2; have HH2 := Lib.hid hh2; clear hg2 r2 hh2)
    | (go_simp; go_at_call 20; (with_reducible refine HC.out.mono ?_); rintro e w1 ⟨v1, rfl, r1, b1⟩; obtain ⟨a1, c1, rfl, _, s1⟩ := r1.sees; have hb1 : Below w.heap.size w w1 := HDR.out.trans b1; have HB1 := Lib.hid hb1; have HV1 := Lib.hid (heap_below HV.out hb1); have HR1 := Lib.hid (HR.out.below hb1); have hq6 : base ≤ w1.heap.size := Nat.le_trans hbase hb1.size; have hcg1 : w1.cell? ⟨g, 0, none⟩ = some (.slice va cur.length vc) := cell_of_block HV1.out 0; have HS1 : Hid (Sees w1 a1 T.length c1 (T.map bv)) := s1; have hq4 : cur.length + T.length ≤ maxLen := (by unfold maxLen; omega); have hq5 : (cur.length + T.length) * 1 ≤ 140737488355328 := (by omega); clear r1 s1 b1 hb1))
  all_goals go_wp2
  all_goals go_end0
  all_goals exact ⟨rfl, add_end HB1.out HV1.out HR1.out HG2.out R2.out (by rw [HTT.out]; simp [lineOf]) (by rw [HTT.out]; simp [lineOf]) hbase hg⟩
theorem add_end0 {base g : Nat} {w w1 w2 : World} {v v2 : Value} {n2 : Nat} {xs2 : List Value} {cur2 : List UInt8} (hb1 : Below w.heap.size w w1) (hv1 : w1.heap[g]? = some (.cells #[v] 27 (0, 0)))
    (hg2 : Below w1.heap.size w1 w2) (r2 : Row isByte w2 base 5 v2 n2 xs2) (hn2 : n2 = cur2.length) (hx2 : xs2 = cur2.map bv) (hbase : base ≤ w.heap.size) (hg : base ≤ g) :
    Buf base g (w2.setCell ⟨g, 0, .none⟩ v2) cur2 ∧ Below base w (w2.setCell ⟨g, 0, .none⟩ v2) ∧ Kept g w (w2.setCell ⟨g, 0, .none⟩ v2) := by
  have hh2 := heap_below hv1 hg2
  subst hn2; subst hx2
  refine ⟨⟨v2, ?_, ?_⟩, ?_, ?_⟩
  · exact block_setCell hh2 v2
  · refine r2.other fun k hk => ?_
    exact Below.heap_setCell w2 ⟨g, 0, .none⟩ v2 k (fun e => (r2.not_own hh2 (by decide)) (by rw [hk, e]))
  · exact ((hb1.trans (hg2.mono hb1.size)).mono hbase).setCell hg v2
  · intro D C t fr hD ht hDg
    have h2 := heap_below (heap_below hD hb1) hg2
    exact (Below.heap_setCell w2 ⟨g, 0, .none⟩ v2 D hDg).trans h2
set_option maxRecDepth 100000 in
set_option maxHeartbeats 1600000 in
theorem add_first (base g R : Nat) (cur : List UInt8) (l : List Nat) (a : Option Addr) (n c : Nat) (w : World) (hv : w.heap[g]? = some (.cells #[.slice (some ⟨R, 0, .none⟩) cur.length cur.length] 27 (0, 0))) (hold : Sees w (some ⟨R, 0, .none⟩) cur.length cur.length (cur.map bv)) (h0 : 0 < cur.length) (h : Sees w a n c (l.map nv32)) (hn : n ≤ 7) (hcur : cur.length ≤ 1000000000) (h32 : ∀ x ∈ l, x < 4294967296) (htab : Tab w) (hbase : base ≤ w.heap.size) (hg : base ≤ g) :
    Calls Tryz.prog 47 #[.slice a n c, .pointer (some ⟨g, 0, .none⟩)] w fun e w' => e = .returned (.tuple #[]) ∧ Buf base g w' (cur ++ lineOf l) ∧ Below base w w' ∧ Kept g w w' := by
  obtain ⟨i0, hi, hz0, hz1, hz2⟩ := info_parts info_u8
  have hcv := cell_of_block hv 0
  have hcv2 : w.cell? ⟨g, 0, none⟩ = some (.slice (some ⟨R, 0, .none⟩) cur.length cur.length) := hcv
  have hfz := unfrozen_of_block hv 0
  have HV := Lib.hid hv
  have HR := Lib.hid hold
  have HS := Lib.hid h
  have HT := Lib.hid htab
  have H32 := Lib.hid h32
  clear hv hcv hold h htab h32
  go_enter Tryz.func47, Tryz.ntmps47
  have hd : Below w.heap.size w w.drew := (Below.refl _ w).drew
  obtain ⟨T, hT⟩ : ∃ T, T = [] ++ (bodyOf l ++ [10]) := ⟨_, rfl⟩
  have hc0 := (write_any [] l none a 0 0 n c w.drew (Sees.nil _ _ _ (fun _ => rfl)) (HS.out.below hd) (by omega) (by omega) H32.out (HT.out.below hd (Nat.le_refl _)))
  rw [← hT] at hc0
  have HC := Lib.hid hc0
  have HDR := Lib.hid hd
  have hll : T.length ≤ 148 := by
    have h1 := bodyOf_len l H32.out
    have h2 := HS.out.lenMap
    rw [hT]; simp; omega
  have hT0 : 0 < T.length := by rw [hT]; simp
  have HTT := Lib.hid hT
  clear hd hc0 hT
  go_region_law (first
    | (refine step_append_full isByte _ rfl _ _ 27 rfl base 5 i0 (.int .u8 0) 1 Tryz.underlying27 hi hz0 hz1 hz2 rfl isByte_zero _ _ _ (by simp [Act.eval]) HR1.out h0 (isByte_all _) _ _ _ _ (by simp [Act.eval]) HS1.out hq7 (isByte_all _) hq4 hq5 hq6 ?_; intro v2 w2 r2 hg2; obtain ⟨a2, c2, rfl⟩ := r2.form; have hh2 := heap_below HV1.out hg2; have hc2 : w2.cell? ⟨g, 0, none⟩ = some (.slice (some ⟨R, 0, .none⟩) cur.length cur.length) := cell_of_block hh2 0; have hf2 : w2.frozen? ⟨g, 0, none⟩ = false := unfrozen_of_block hh2 0; have HG2 := Lib.hid hg2; have R2 := Lib.hid r2; have HH2 := Lib.hid hh2; clear hg2 r2 hh2)
    | (go_simp; go_at_call 20; (with_reducible refine HC.out.mono ?_); rintro e w1 ⟨v1, rfl, r1, b1⟩; obtain ⟨a1, c1, rfl, _, s1⟩ := r1.sees; have hb1 : Below w.heap.size w w1 := HDR.out.trans b1; have HB1 := Lib.hid hb1; have HV1 := Lib.hid (heap_below HV.out hb1); have HR1 := Lib.hid (HR.out.below hb1); have hq6 : base ≤ w1.heap.size := Nat.le_trans hbase hb1.size; have hq7 : 0 < T.length := hT0; have hcg1 : w1.cell? ⟨g, 0, none⟩ = some (.slice (some ⟨R, 0, .none⟩) cur.length cur.length) := cell_of_block HV1.out 0; have HS1 : Hid (Sees w1 a1 T.length c1 (T.map bv)) := s1; have hq4 : cur.length + T.length ≤ maxLen := (by unfold maxLen; omega); have hq5 : (cur.length + T.length) * 1 ≤ 140737488355328 := (by omega); clear r1 s1 b1 hb1))
  all_goals go_wp2
  all_goals go_end0
  all_goals exact ⟨rfl, add_end0 HB1.out HV1.out HG2.out R2.out (by rw [HTT.out]; simp [lineOf]) (by rw [HTT.out]; simp [lineOf]) hbase hg⟩
end Go.Proofs.YtglhnmbfkbjemaaGreatDoor
/- bin.Put's closure, by its contract: it adds a line to the bytes that it captures. -/
namespace Go.Proofs.YtglhnmbfkbjemaaGreatDoor
open Go Go.RowKit Go.Joins
set_option maxRecDepth 100000 in
set_option maxHeartbeats 1600000 in
theorem badd_any (base g : Nat) (cur : List UInt8) (l : List Nat) (a : Option Addr) (n c : Nat) (w : World) (hB : Buf base g w cur) (h : Sees w a n c (l.map nv32)) (hn : n ≤ 7) (hcur : cur.length ≤ 1000000000) (h32 : ∀ x ∈ l, x < 4294967296) (htab : Tab w) (hbase : base ≤ w.heap.size) (hg : base ≤ g) :
    Calls Tryz.prog 19 #[.slice a n c, .pointer (some ⟨g, 0, .none⟩)] w fun e w' => e = .returned (.tuple #[]) ∧ Buf base g w' (cur ++ lineOf l) ∧ Below base w w' ∧ Kept g w w' := by
  obtain ⟨i0, hi, hz0, hz1, hz2⟩ := info_parts info_u8
  obtain ⟨v, hv, hrow⟩ := hB
  have hcv := cell_of_block hv 0
  have hcv2 : w.cell? ⟨g, 0, none⟩ = some v := hcv
  have hfz := unfrozen_of_block hv 0
  obtain ⟨va, vc, rfl⟩ := hrow.form
  have HV := Lib.hid hv
  have HR := Lib.hid hrow
  have HS := Lib.hid h
  have HT := Lib.hid htab
  have H32 := Lib.hid h32
  clear hv hcv hrow h htab h32
  go_enter Tryz.func19, Tryz.ntmps19
  have hd : Below w.heap.size w w.drew := (Below.refl _ w).drew
  obtain ⟨T, hT⟩ : ∃ T, T = [] ++ (bodyOf l ++ [10]) := ⟨_, rfl⟩
  have hc0 := (write_any [] l none a 0 0 n c w.drew (Sees.nil _ _ _ (fun _ => rfl)) (HS.out.below hd) (by omega) (by omega) H32.out (HT.out.below hd (Nat.le_refl _)))
  rw [← hT] at hc0
  have HC := Lib.hid hc0
  have HDR := Lib.hid hd
  have hll : T.length ≤ 148 := by
    have h1 := bodyOf_len l H32.out
    have h2 := HS.out.lenMap
    rw [hT]; simp; omega
  have HTT := Lib.hid hT
  clear hd hc0 hT
  go_region_law (first
    | (refine step_append_row isByte _ rfl _ _ 27 rfl base 5 i0 (.int .u8 0) 1 Tryz.underlying27 hi hz0 hz1 hz2 rfl isByte_zero _ _ _ (by simp [Act.eval]) HR1.out _ _ _ _ (by simp [Act.eval]) HS1.out (bv_one _) (isByte_all _) hq4 hq5 hq6 ?_; intro v2 w2 r2 hg2; obtain ⟨a2, c2, rfl⟩ := r2.form; have hh2 := heap_grown HV1.out hg2 (HR1.out.not_own HV1.out (by decide)); have hc2 : w2.cell? ⟨g, 0, none⟩ = some (.slice va cur.length vc) := cell_of_block hh2 0; have hf2 : w2.frozen? ⟨g, 0, none⟩ = false := unfrozen_of_block hh2 0; have HG2 := Lib.hid hg2; have R2 := Lib.hid r2; have HH2 := Lib.hid hh2; clear hg2 r2 hh2)
    | (go_simp; go_at_call 20; (with_reducible refine HC.out.mono ?_); rintro e w1 ⟨v1, rfl, r1, b1⟩; obtain ⟨a1, c1, rfl, _, s1⟩ := r1.sees; have hb1 : Below w.heap.size w w1 := HDR.out.trans b1; have HB1 := Lib.hid hb1; have HV1 := Lib.hid (heap_below HV.out hb1); have HR1 := Lib.hid (HR.out.below hb1); have hq6 : base ≤ w1.heap.size := Nat.le_trans hbase hb1.size; have hcg1 : w1.cell? ⟨g, 0, none⟩ = some (.slice va cur.length vc) := cell_of_block HV1.out 0; have HS1 : Hid (Sees w1 a1 T.length c1 (T.map bv)) := s1; have hq4 : cur.length + T.length ≤ maxLen := (by unfold maxLen; omega); have hq5 : (cur.length + T.length) * 1 ≤ 140737488355328 := (by omega); clear r1 s1 b1 hb1))
  all_goals go_wp2
  all_goals go_end0
  all_goals exact ⟨rfl, add_end HB1.out HV1.out HR1.out HG2.out R2.out (by rw [HTT.out]; simp [lineOf]) (by rw [HTT.out]; simp [lineOf]) hbase hg⟩
end Go.Proofs.YtglhnmbfkbjemaaGreatDoor
namespace Go.Proofs.YtglhnmbfkbjemaaGreatDoor
open Go Go.RowKit Go.Joins
def KeptT (w w' : World) : Prop := ∀ (D : Nat) (C : Array Value) (t : TypeId) (fr : Nat × Nat), w.heap[D]? = some (.cells C t fr) → t ≠ 5 → w'.heap[D]? = some (.cells C t fr)
theorem KeptT.refl (w : World) : KeptT w w := fun _ _ _ _ h _ => h
theorem KeptT.trans {a b c : World} (h : KeptT a b) (k : KeptT b c) : KeptT a c := fun D C t fr hD ht => k D C t fr (h D C t fr hD ht) ht
theorem KeptT.below {a b c : World} (h : KeptT a b) (k : Below b.heap.size b c) : KeptT a c := fun D C t fr hD ht => heap_below (h D C t fr hD ht) k
theorem KeptT.grow {w wr w2 : World} (h : KeptT w wr) {o : Obj} {B : Nat} {v : Value} {n : Nat} {xs : List Value} (hr : Row isByte (wr.alloc o) B 5 v n xs) (hg : (wr.alloc o).grownBy w2 v.ownBlock) : KeptT w w2 := fun D C t fr hD ht => by
  have h1 := heap_below (h D C t fr hD ht) (ext_alloc wr o)
  exact heap_grown h1 hg (hr.not_own h1 ht)
set_option maxRecDepth 100000 in
set_option maxHeartbeats 3200000 in
theorem bappdelta_any (B k u : Nat) (hu32 : u < 4294967296) (sv : Value) (xs : List Value) (w : World) (hown : Row isByte w B 5 sv k xs) (hBw : B ≤ w.heap.size) (hlim : k + 20 ≤ 140737488355328) :
    Calls Tryz.prog 21 #[sv, .int .u32 u] w fun e w' => ∃ v', e = .returned v' ∧ Row isByte w' B 5 v' (k + (encL u).length) (xs ++ (encL u).map bv) ∧ Below B w w' ∧ KeptT w w' := by
  obtain ⟨i0, hi, hz0, hz1, hz2⟩ := info_parts info_u8
  have HOWN := Lib.hid hown
  clear hown
  go_enter Tryz.func21, Tryz.ntmps21
  go_wp2
  go_loopw [0, 1] (fun v nn wr => ∃ (j f m : Nat) (ys : List UInt8), j + f = 4 ∧ nn = .int .u32 (m : Int) ∧ Hid (m < 128 ^ (f + 1)) ∧ m < 4294967296 ∧ Hid (ys.length = j) ∧ Hid (ys ++ dEnc f m = encL u) ∧ Hid (Row isByte wr B 5 v (k + j) (xs ++ ys.map bv)) ∧ Hid (Below B w wr) ∧ Hid (KeptT w wr))
    (fun _ nn _ => (intOf nn).toNat)
  case atStart => exact ⟨0, 4, u, [], rfl, rfl, (by show u < 128 ^ 5; omega), hu32, rfl, rfl, (by simpa [Hid] using HOWN.out), Below.refl _ _, KeptT.refl _⟩
  case round =>
    obtain ⟨j, f, m, ys, hjf, rfl, hm, hm32, hys, hyd, hrow, hB, hkt⟩ := hrel
    have hws := hB.out.size
    by_cases hge : 128 ≤ m
    · have e1 : decide ((128 : Int) ≤ (m : Int)) = true := by simp; omega
      obtain ⟨q, hq⟩ : ∃ q, q = m % 256 := ⟨_, rfl⟩
      obtain ⟨y, hy⟩ : ∃ y, y = m % 128 + 128 := ⟨_, rfl⟩
      have A1 : IntKind.u8.wrap (m : Int) = (q : Int) := by rw [IntKind.wrap_u8]; omega
      have A2 : bits .or .u8 (q : Int) 128 = (y : Int) := by
        have h1 := u8_or_nat q 128 (by omega) (by omega)
        rw [show ((128 : Nat) : Int) = 128 by rfl] at h1
        rw [h1, or128 q (by omega)]
        omega
      have hy256 : y < 256 := by omega
      have HYB : Hid (bv (UInt8.ofNat y) = Value.int .u8 (y : Int)) := bv_of y hy256
      have HYQ : Hid (y = m % 128 + 128) := hy
      have HSZ : Hid (w.heap.size ≤ wr.heap.size) := hws
      clear hq hy hws
      go_wp2_with (at_builtin; refine wpList_append_row isByte _ rfl _ _ 27 rfl B 5 i0 (.int .u8 0) 1 Tryz.underlying27 hi hz0 hz1 hz2 rfl isByte_zero _ _ _ rfl (hrow.out.below ((Below.refl _ _).alloc (Nat.le_refl _) _)) (some ⟨wr.heap.size, 0, none⟩) 1 1 [bv (UInt8.ofNat y)] rfl (by rw [HYB.out]; exact sees_one _ _ _) (bv_one [UInt8.ofNat y]) (isByte_all [UInt8.ofNat y]) ?r4 ?r5 ?r6 ?_)
      case r4 => unfold maxLen; omega
      case r5 => omega
      case r6 => have := HSZ.out; simp; omega
      intro v2 w2 hrow2 hgrow2 _
      have hlt2 := hrow.out.own.lt
      have hb2 : Below B w w2 := (hB.out.alloc (by have := HSZ.out; omega) _).grown hgrow2 (by have := HSZ.out; simp; omega) (fun k hk => (hlt2 k hk).1)
      have HK2 := Lib.hid (hkt.out.grow (hrow.out.below (ext_alloc _ _)) hgrow2)
      have HR2 := Lib.hid hrow2
      have HB2 := Lib.hid hb2
      clear hrow2 hgrow2 hlt2 hb2
      go_wp2
      go_roundw
      case rel =>
        obtain ⟨f', rfl⟩ : ∃ f', f = f' + 1 := by
          cases f with
          | zero => have := hm.out; simp at this; omega
          | succ f' => exact ⟨f', rfl⟩
        refine ⟨j + 1, f', m / 128, ys ++ [UInt8.ofNat y], by omega, by go_num, ?_, by omega, ?_, ?_, ?_, HB2, HK2⟩
        · have h5 := hm.out
          show m / 128 < 128 ^ (f' + 1)
          rw [Nat.pow_succ] at h5
          exact Nat.div_lt_of_lt_mul (by rw [Nat.mul_comm]; exact h5)
        · show (ys ++ [_]).length = j + 1
          rw [List.length_append, hys.out]; rfl
        · show (ys ++ [_]) ++ dEnc f' (m / 128) = encL u
          have h5 := hyd.out
          rw [dEnc_big hge] at h5
          rw [List.append_assoc, HYQ.out]
          exact h5
        · show Row isByte w2 B 5 v2 (k + (j + 1)) (xs ++ (ys ++ [_]).map bv)
          have h5 := HR2.out
          rw [List.map_append]
          exact h5
      case measure => simp [intOf]; omega
    · have e1 : decide ((128 : Int) ≤ (m : Int)) = false := by simp; omega
      obtain ⟨q, hq⟩ : ∃ q, q = m % 256 := ⟨_, rfl⟩
      have A1 : IntKind.u8.wrap (m : Int) = (m : Int) := by rw [IntKind.wrap_u8]; omega
      have HMB : Hid (bv (UInt8.ofNat m) = Value.int .u8 (m : Int)) := bv_of m (by omega)
      go_wp2_with ((at_builtin; refine wpList_append_row isByte _ rfl _ _ 27 rfl B 5 i0 (.int .u8 0) 1 Tryz.underlying27 hi hz0 hz1 hz2 rfl isByte_zero _ _ _ rfl (hrow.out.below ((Below.refl _ _).alloc (Nat.le_refl _) _)) (some ⟨wr.heap.size, 0, none⟩) 1 1 [bv (UInt8.ofNat m)] rfl (by rw [HMB.out]; exact sees_one _ _ _) (bv_one [UInt8.ofNat m]) (isByte_all [UInt8.ofNat m]) ?r4 ?r5 ?r6 ?_))
      case r4 => unfold maxLen; omega
      case r5 => omega
      case r6 => simp; omega
      intro v2 w2 hrow2 hgrow2 _
      have hlt2 := hrow.out.own.lt
      have hb2 : Below B w w2 := (hB.out.alloc (by omega) _).grown hgrow2 (by simp; omega) (fun k hk => (hlt2 k hk).1)
      have he : encL u = ys ++ [UInt8.ofNat m] := by rw [← hyd.out, dEnc_small (by omega)]
      have hrow3 : Row isByte w2 B 5 v2 (k + (encL u).length) (xs ++ (encL u).map bv) := by
        rw [he, List.length_append, List.map_append, hys.out]
        exact hrow2
      have HK2 := Lib.hid (hkt.out.grow (hrow.out.below (ext_alloc _ _)) hgrow2)
      have HR2 := Lib.hid hrow3
      have HB2 := Lib.hid hb2
      clear hrow2 hrow3 hgrow2 hlt2 hb2 he
      go_wp2
      go_ret
      exact ⟨v2, rfl, HR2.out, HB2.out, HK2.out⟩
end Go.Proofs.YtglhnmbfkbjemaaGreatDoor
