/- bin.Put's closure, by its contract: it adds a line to the bytes that it captures. -/
import Derived.Test.YtglhnmbfkbjemaaDoorRawPut1
namespace Go.Proofs.YtglhnmbfkbjemaaDoor
open Go Go.RowKit Go.Joins

set_option maxRecDepth 100000 in
set_option maxHeartbeats 1600000 in
theorem badd_any (base g : Nat) (cur : List UInt8) (l : List Nat) (a : Option Addr) (n c : Nat) (w : World) (hB : Buf base g w cur) (h : Sees w a n c (l.map nv32)) (hn : n ≤ 7) (hcur : cur.length ≤ 1000000000) (h32 : ∀ x ∈ l, x < 4294967296) (htab : Tab w) (hbase : base ≤ w.heap.size) (hg : base ≤ g) :
    Calls Tryd.prog 21 #[.slice a n c, .pointer (some ⟨g, 0, .none⟩)] w fun e w' => e = .returned (.tuple #[]) ∧ Buf base g w' (cur ++ lineOf l) ∧ Below base w w' ∧ Kept g w w' := by
  obtain ⟨i0, hi, hz0, hz1, hz2⟩ := info_parts info_u8
  obtain ⟨v, hv, hrow⟩ := hB
  have hcv := cell_of_block hv 0
  have hcv2 : w.cell? ⟨g, 0, none⟩ = some v := hcv
  have hfz := unfrozen_of_block hv 0
  obtain ⟨va, vc, rfl⟩ := hrow.form
  have HV := Lib.hid hv
  have HR := Lib.hid hrow
  have HS := Lib.hid h
  have HT := Lib.hid htab
  have H32 := Lib.hid h32
  clear hv hcv hrow h htab h32
  go_enter Tryd.func21, Tryd.ntmps21
  have hd : Below w.heap.size w w.drew := (Below.refl _ w).drew
  obtain ⟨T, hT⟩ : ∃ T, T = [] ++ (bodyOf l ++ [10]) := ⟨_, rfl⟩
  have hc0 := (write_any [] l none a 0 0 n c w.drew (Sees.nil _ _ _ (fun _ => rfl)) (HS.out.below hd) (by omega) (by omega) H32.out (HT.out.below hd (Nat.le_refl _)))
  rw [← hT] at hc0
  have HC := Lib.hid hc0
  have HDR := Lib.hid hd
  have hll : T.length ≤ 148 := by
    have h1 := bodyOf_len l H32.out
    have h2 := HS.out.lenMap
    rw [hT]; simp; omega
  have HTT := Lib.hid hT
  clear hd hc0 hT
  go_region_law (first
    | (refine step_append_row isByte _ rfl _ _ 22 rfl base 5 i0 (.int .u8 0) 1 Tryd.underlying22 hi hz0 hz1 hz2 rfl isByte_zero _ _ _ (by simp [Act.eval]) HR1.out _ _ _ _ (by simp [Act.eval]) HS1.out (bv_one _) (isByte_all _) hq4 hq5 hq6 ?_; intro v2 w2 r2 hg2; obtain ⟨a2, c2, rfl⟩ := r2.form; have hh2 := heap_grown HV1.out hg2 (HR1.out.not_own HV1.out (by decide)); have hc2 : w2.cell? ⟨g, 0, none⟩ = some (.slice va cur.length vc) := cell_of_block hh2 0; have hf2 : w2.frozen? ⟨g, 0, none⟩ = false := unfrozen_of_block hh2 0; have HG2 := Lib.hid hg2; have R2 := Lib.hid r2; have HH2 := Lib.hid hh2; clear hg2 r2 hh2)
    | (go_simp; go_at_call 22; (with_reducible refine HC.out.mono ?_); rintro e w1 ⟨v1, rfl, r1, b1⟩; obtain ⟨a1, c1, rfl, _, s1⟩ := r1.sees; have hb1 : Below w.heap.size w w1 := HDR.out.trans b1; have HB1 := Lib.hid hb1; have HV1 := Lib.hid (heap_below HV.out hb1); have HR1 := Lib.hid (HR.out.below hb1); have hq6 : base ≤ w1.heap.size := Nat.le_trans hbase hb1.size; have hcg1 : w1.cell? ⟨g, 0, none⟩ = some (.slice va cur.length vc) := cell_of_block HV1.out 0; have HS1 : Hid (Sees w1 a1 T.length c1 (T.map bv)) := s1; have hq4 : cur.length + T.length ≤ maxLen := (by unfold maxLen; omega); have hq5 : (cur.length + T.length) * 1 ≤ 140737488355328 := (by omega); clear r1 s1 b1 hb1))
  all_goals go_wp2
  all_goals go_end0
  all_goals exact ⟨rfl, add_end HB1.out HV1.out HR1.out HG2.out R2.out (by rw [HTT.out]; simp [lineOf]) (by rw [HTT.out]; simp [lineOf]) hbase hg⟩
end Go.Proofs.YtglhnmbfkbjemaaDoor
