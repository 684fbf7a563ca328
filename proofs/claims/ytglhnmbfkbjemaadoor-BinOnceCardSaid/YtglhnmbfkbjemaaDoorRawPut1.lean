/- raw.Put's closure, by its contract: it adds a line to the text that it captures. -/
import Derived.Test.YtglhnmbfkbjemaaDoorBInA
import Derived.Test.YtglhnmbfkbjemaaDoorRowStep
namespace Go.Proofs.YtglhnmbfkbjemaaDoor
open Go Go.RowKit Go.Joins

/-- The captured variable at block g holds a row of its own that reads as cur. -/
def Buf (base g : Nat) (w : World) (cur : List UInt8) : Prop := ∃ v, w.heap[g]? = some (.cells #[v] 22 (0, 0)) ∧ Row isByte w base 5 v cur.length (cur.map bv)
/-- Blocks of another type are as they were, but for g. -/
def Kept (g : Nat) (w w' : World) : Prop := ∀ D C t fr, w.heap[D]? = some (.cells C t fr) → t ≠ 5 → D ≠ g → w'.heap[D]? = some (.cells C t fr)
theorem Kept.refl (g : Nat) (w : World) : Kept g w w := fun _ _ _ _ h _ _ => h
theorem Kept.trans {g : Nat} {a b c : World} (h : Kept g a b) (k : Kept g b c) : Kept g a c := fun D C t fr hD ht hg => k D C t fr (h D C t fr hD ht hg) ht hg
theorem Kept.below {g : Nat} {a b c : World} (h : Kept g a b) (k : Below b.heap.size b c) : Kept g a c := fun D C t fr hD ht hg => heap_below (h D C t fr hD ht hg) k

theorem add_end {base g : Nat} {w w1 w2 : World} {v v2 : Value} {n n2 : Nat} {xs xs2 : List Value} {cur2 : List UInt8} (hb1 : Below w.heap.size w w1) (hv1 : w1.heap[g]? = some (.cells #[v] 22 (0, 0)))
    (hr1 : Row isByte w1 base 5 v n xs) (hg2 : w1.grownBy w2 v.ownBlock) (r2 : Row isByte w2 base 5 v2 n2 xs2) (hn2 : n2 = cur2.length) (hx2 : xs2 = cur2.map bv) (hbase : base ≤ w.heap.size) (hg : base ≤ g) :
    Buf base g (w2.setCell ⟨g, 0, .none⟩ v2) cur2 ∧ Below base w (w2.setCell ⟨g, 0, .none⟩ v2) ∧ Kept g w (w2.setCell ⟨g, 0, .none⟩ v2) := by
  have hh2 := heap_grown hv1 hg2 (hr1.not_own hv1 (by decide))
  subst hn2; subst hx2
  refine ⟨⟨v2, ?_, ?_⟩, ?_, ?_⟩
  · exact block_setCell hh2 v2
  · refine r2.other fun k hk => ?_
    exact Below.heap_setCell w2 ⟨g, 0, .none⟩ v2 k (fun e => (r2.not_own hh2 (by decide)) (by rw [hk, e]))
  · exact (((hb1.mono hbase).grown hg2 (Nat.le_trans hbase hb1.size) (fun k hk => (hr1.own.lt k hk).1))).setCell hg v2
  · intro D C t fr hD ht hDg
    have h1 := heap_below hD hb1
    have h2 := heap_grown h1 hg2 (hr1.not_own h1 ht)
    exact (Below.heap_setCell w2 ⟨g, 0, .none⟩ v2 D hDg).trans h2

set_option maxRecDepth 100000 in
set_option maxHeartbeats 1600000 in
theorem add_any (base g : Nat) (cur : List UInt8) (l : List Nat) (a : Option Addr) (n c : Nat) (w : World) (hB : Buf base g w cur) (h : Sees w a n c (l.map nv32)) (hn : n ≤ 7) (hcur : cur.length ≤ 1000000000) (h32 : ∀ x ∈ l, x < 4294967296) (htab : Tab w) (hbase : base ≤ w.heap.size) (hg : base ≤ g) :
    Calls Tryd.prog 41 #[.slice a n c, .pointer (some ⟨g, 0, .none⟩)] w fun e w' => e = .returned (.tuple #[]) ∧ Buf base g w' (cur ++ lineOf l) ∧ Below base w w' ∧ Kept g w w' := by
  obtain ⟨i0, hi, hz0, hz1, hz2⟩ := info_parts info_u8
  obtain ⟨v, hv, hrow⟩ := hB
  have hcv := cell_of_block hv 0
  have hcv2 : w.cell? ⟨g, 0, none⟩ = some v := hcv
  have hfz := unfrozen_of_block hv 0
  obtain ⟨va, vc, rfl⟩ := hrow.form
  have HV := Lib.hid hv
  have HR := Lib.hid hrow
  have HS := Lib.hid h
  have HT := Lib.hid htab
  have H32 := Lib.hid h32
  clear hv hcv hrow h htab h32
  go_enter Tryd.func41, Tryd.ntmps41
  have hd : Below w.heap.size w w.drew := (Below.refl _ w).drew
  obtain ⟨T, hT⟩ : ∃ T, T = [] ++ (bodyOf l ++ [10]) := ⟨_, rfl⟩
  have hc0 := (write_any [] l none a 0 0 n c w.drew (Sees.nil _ _ _ (fun _ => rfl)) (HS.out.below hd) (by omega) (by omega) H32.out (HT.out.below hd (Nat.le_refl _)))
  rw [← hT] at hc0
  have HC := Lib.hid hc0
  have HDR := Lib.hid hd
  have hll : T.length ≤ 148 := by
    have h1 := bodyOf_len l H32.out
    have h2 := HS.out.lenMap
    rw [hT]; simp; omega
  have HTT := Lib.hid hT
  clear hd hc0 hT
  go_region_law (first
    | (refine step_append_row isByte _ rfl _ _ 22 rfl base 5 i0 (.int .u8 0) 1 Tryd.underlying22 hi hz0 hz1 hz2 rfl isByte_zero _ _ _ (by simp [Act.eval]) HR1.out _ _ _ _ (by simp [Act.eval]) HS1.out (bv_one _) (isByte_all _) hq4 hq5 hq6 ?_; intro v2 w2 r2 hg2; obtain ⟨a2, c2, rfl⟩ := r2.form; have hh2 := heap_grown HV1.out hg2 (HR1.out.not_own HV1.out (by decide)); have hc2 : w2.cell? ⟨g, 0, none⟩ = some (.slice va cur.length vc) := cell_of_block hh2 0; have hf2 : w2.frozen? ⟨g, 0, none⟩ = false := unfrozen_of_block hh2 0; have HG2 := Lib.hid hg2; have R2 := Lib.hid r2; have HH2 := Lib.hid hh2; clear hg2 r2 hh2)
    | (go_simp; go_at_call 22; (with_reducible refine HC.out.mono ?_); rintro e w1 ⟨v1, rfl, r1, b1⟩; obtain ⟨a1, c1, rfl, _, s1⟩ := r1.sees; have hb1 : Below w.heap.size w w1 := HDR.out.trans b1; have HB1 := Lib.hid hb1; have HV1 := Lib.hid (heap_below HV.out hb1); have HR1 := Lib.hid (HR.out.below hb1); have hq6 : base ≤ w1.heap.size := Nat.le_trans hbase hb1.size; have hcg1 : w1.cell? ⟨g, 0, none⟩ = some (.slice va cur.length vc) := cell_of_block HV1.out 0; have HS1 : Hid (Sees w1 a1 T.length c1 (T.map bv)) := s1; have hq4 : cur.length + T.length ≤ maxLen := (by unfold maxLen; omega); have hq5 : (cur.length + T.length) * 1 ≤ 140737488355328 := (by omega); clear r1 s1 b1 hb1))
  all_goals go_wp2
  all_goals go_end0
  all_goals exact ⟨rfl, add_end HB1.out HV1.out HR1.out HG2.out R2.out (by rw [HTT.out]; simp [lineOf]) (by rw [HTT.out]; simp [lineOf]) hbase hg⟩
theorem add_end0 {base g : Nat} {w w1 w2 : World} {v v2 : Value} {n2 : Nat} {xs2 : List Value} {cur2 : List UInt8} (hb1 : Below w.heap.size w w1) (hv1 : w1.heap[g]? = some (.cells #[v] 22 (0, 0)))
    (hg2 : Below w1.heap.size w1 w2) (r2 : Row isByte w2 base 5 v2 n2 xs2) (hn2 : n2 = cur2.length) (hx2 : xs2 = cur2.map bv) (hbase : base ≤ w.heap.size) (hg : base ≤ g) :
    Buf base g (w2.setCell ⟨g, 0, .none⟩ v2) cur2 ∧ Below base w (w2.setCell ⟨g, 0, .none⟩ v2) ∧ Kept g w (w2.setCell ⟨g, 0, .none⟩ v2) := by
  have hh2 := heap_below hv1 hg2
  subst hn2; subst hx2
  refine ⟨⟨v2, ?_, ?_⟩, ?_, ?_⟩
  · exact block_setCell hh2 v2
  · refine r2.other fun k hk => ?_
    exact Below.heap_setCell w2 ⟨g, 0, .none⟩ v2 k (fun e => (r2.not_own hh2 (by decide)) (by rw [hk, e]))
  · exact ((hb1.trans (hg2.mono hb1.size)).mono hbase).setCell hg v2
  · intro D C t fr hD ht hDg
    have h2 := heap_below (heap_below hD hb1) hg2
    exact (Below.heap_setCell w2 ⟨g, 0, .none⟩ v2 D hDg).trans h2

set_option maxRecDepth 100000 in
set_option maxHeartbeats 1600000 in
theorem add_first (base g R : Nat) (cur : List UInt8) (l : List Nat) (a : Option Addr) (n c : Nat) (w : World) (hv : w.heap[g]? = some (.cells #[.slice (some ⟨R, 0, .none⟩) cur.length cur.length] 22 (0, 0))) (hold : Sees w (some ⟨R, 0, .none⟩) cur.length cur.length (cur.map bv)) (h0 : 0 < cur.length) (h : Sees w a n c (l.map nv32)) (hn : n ≤ 7) (hcur : cur.length ≤ 1000000000) (h32 : ∀ x ∈ l, x < 4294967296) (htab : Tab w) (hbase : base ≤ w.heap.size) (hg : base ≤ g) :
    Calls Tryd.prog 41 #[.slice a n c, .pointer (some ⟨g, 0, .none⟩)] w fun e w' => e = .returned (.tuple #[]) ∧ Buf base g w' (cur ++ lineOf l) ∧ Below base w w' ∧ Kept g w w' := by
  obtain ⟨i0, hi, hz0, hz1, hz2⟩ := info_parts info_u8
  have hcv := cell_of_block hv 0
  have hcv2 : w.cell? ⟨g, 0, none⟩ = some (.slice (some ⟨R, 0, .none⟩) cur.length cur.length) := hcv
  have hfz := unfrozen_of_block hv 0
  have HV := Lib.hid hv
  have HR := Lib.hid hold
  have HS := Lib.hid h
  have HT := Lib.hid htab
  have H32 := Lib.hid h32
  clear hv hcv hold h htab h32
  go_enter Tryd.func41, Tryd.ntmps41
  have hd : Below w.heap.size w w.drew := (Below.refl _ w).drew
  obtain ⟨T, hT⟩ : ∃ T, T = [] ++ (bodyOf l ++ [10]) := ⟨_, rfl⟩
  have hc0 := (write_any [] l none a 0 0 n c w.drew (Sees.nil _ _ _ (fun _ => rfl)) (HS.out.below hd) (by omega) (by omega) H32.out (HT.out.below hd (Nat.le_refl _)))
  rw [← hT] at hc0
  have HC := Lib.hid hc0
  have HDR := Lib.hid hd
  have hll : T.length ≤ 148 := by
    have h1 := bodyOf_len l H32.out
    have h2 := HS.out.lenMap
    rw [hT]; simp; omega
  have hT0 : 0 < T.length := by rw [hT]; simp
  have HTT := Lib.hid hT
  clear hd hc0 hT
  go_region_law (first
    | (refine step_append_full isByte _ rfl _ _ 22 rfl base 5 i0 (.int .u8 0) 1 Tryd.underlying22 hi hz0 hz1 hz2 rfl isByte_zero _ _ _ (by simp [Act.eval]) HR1.out h0 (isByte_all _) _ _ _ _ (by simp [Act.eval]) HS1.out hq7 (isByte_all _) hq4 hq5 hq6 ?_; intro v2 w2 r2 hg2; obtain ⟨a2, c2, rfl⟩ := r2.form; have hh2 := heap_below HV1.out hg2; have hc2 : w2.cell? ⟨g, 0, none⟩ = some (.slice (some ⟨R, 0, .none⟩) cur.length cur.length) := cell_of_block hh2 0; have hf2 : w2.frozen? ⟨g, 0, none⟩ = false := unfrozen_of_block hh2 0; have HG2 := Lib.hid hg2; have R2 := Lib.hid r2; have HH2 := Lib.hid hh2; clear hg2 r2 hh2)
    | (go_simp; go_at_call 22; (with_reducible refine HC.out.mono ?_); rintro e w1 ⟨v1, rfl, r1, b1⟩; obtain ⟨a1, c1, rfl, _, s1⟩ := r1.sees; have hb1 : Below w.heap.size w w1 := HDR.out.trans b1; have HB1 := Lib.hid hb1; have HV1 := Lib.hid (heap_below HV.out hb1); have HR1 := Lib.hid (HR.out.below hb1); have hq6 : base ≤ w1.heap.size := Nat.le_trans hbase hb1.size; have hq7 : 0 < T.length := hT0; have hcg1 : w1.cell? ⟨g, 0, none⟩ = some (.slice (some ⟨R, 0, .none⟩) cur.length cur.length) := cell_of_block HV1.out 0; have HS1 : Hid (Sees w1 a1 T.length c1 (T.map bv)) := s1; have hq4 : cur.length + T.length ≤ maxLen := (by unfold maxLen; omega); have hq5 : (cur.length + T.length) * 1 ≤ 140737488355328 := (by omega); clear r1 s1 b1 hb1))
  all_goals go_wp2
  all_goals go_end0
  all_goals exact ⟨rfl, add_end0 HB1.out HV1.out HG2.out R2.out (by rw [HTT.out]; simp [lineOf]) (by rw [HTT.out]; simp [lineOf]) hbase hg⟩
end Go.Proofs.YtglhnmbfkbjemaaDoor
