/- enc.Trace's closure, by its contract. -/
import Derived.Test.YtcoehbkjccfhlaaGEncM03
import Derived.Test.YtcoehbkjccfhlaaGEncM01
import Derived.Test.YtcoehbkjccfhlaaGEncM04
import Derived.Test.YtcoehbkjccfhlaaGEncM10
import Derived.Test.YtcoehbkjccfhlaaGEncM05
import Derived.Test.YtcoehbkjccfhlaaGEncM19
import Derived.Test.YtcoehbkjccfhlaaRows
import Derived.BigQuiet
import Derived.Deep.AppendLies
import Derived.Deep.CutRange
import Derived.Deep.QuietTactic
import Derived.Deep.RegionHeld3
import Derived.Deep.RegionLaw
import Derived.Deep.RegionWith
import Derived.KernelRfl
import Derived.Laws.Bits64b
import Derived.Laws.BitsAllLaws
import Derived.Laws.BitsLemmas
import Derived.Laws.EntriesVeiled
import Derived.Laws.Tables
import Derived.Lib.AppendStr
import Derived.Lib.AppendZeros
import Derived.Lib.ConvBytes
import Derived.Lib.Hide
import Derived.Lib.SlBytesRow
import Derived.Lib.SmallJoins
import Derived.LoopIn
import Derived.LoopNIn
import Derived.Maps.AppendAt
import Derived.OrdersHeld
import Derived.OrdersIn
import Derived.OwnWalkIn
import Derived.RangeFuncBox
import Derived.RangeFuncCalls
import Derived.RangeFuncLeaves
import Derived.RangeFuncNested
import Derived.RangeFuncWrites
import Derived.Shelf.Abstract
import Derived.Shelf.Bytes.SlSmallAll
import Derived.Shelf.RegionOpen
import Derived.Sort.CutIn
import Derived.Stop.RegionWithIn
import Derived.TacticsInMore
import Derived.WalkKit
import Derived.WalkLawsBesides
import Derived.WalkSpells
import Derived.Test.YtcoehbkjccfhlaaGEncM12
import Derived.Test.YtcoehbkjccfhlaaEnFa
import Derived.Test.YtcoehbkjccfhlaaGEncM18
import Derived.Test.YtcoehbkjccfhlaaGEncM00
import Derived.Test.YtcoehbkjccfhlaaGEncM02
import Derived.Test.YtcoehbkjccfhlaaEnSmall
/- What remains of a trace fails, with other states each frame; cut once more it stays (on lists). -/
namespace Go.Proofs.Ytcoehbkjccfhlaa
open Go Go.RowKit Go.Joins

theorem remL_ge {S : List (List UInt8)} : ∀ (f i : Nat), ∀ x ∈ remL S f i, i ≤ x
  | 0, _, x, h => by cases h
  | f + 1, i, x, h => by
    rw [remL] at h
    split at h
    · rename_i h1
      have h3 := lastI_ge h1
      rcases List.mem_cons.1 h with rfl | h2
      · exact h3
      · have := remL_ge f _ x h2
        omega
    · cases h
theorem remL_rise {S : List (List UInt8)} : ∀ (f i : Nat), (remL S f i).Pairwise (· < ·)
  | 0, _ => List.Pairwise.nil
  | f + 1, i => by
    rw [remL]
    split
    · exact List.Pairwise.cons (fun x hx => remL_ge f _ x hx) (remL_rise f _)
    · exact List.Pairwise.nil
theorem remL_lone {S : List (List UInt8)} : ∀ (f i : Nat), ∀ k ∈ remL S f i, ∀ j, k < j → j < S.length → S.getD j [] ≠ S.getD k []
  | 0, _, k, h => by cases h
  | f + 1, i, k, h => by
    rw [remL] at h
    split at h
    · rename_i h1
      rcases List.mem_cons.1 h with rfl | h2
      · intro j hj hn
        rw [lastI_same h1]
        exact lastI_none hj hn
      · exact remL_lone f _ k h2
    · cases h
theorem remL_last {S : List (List UInt8)} : ∀ (f i : Nat), i < S.length → S.length ≤ i + f → 0 < (remL S f i).length ∧ (remL S f i).getD ((remL S f i).length - 1) 0 = S.length - 1
  | 0, i, h, hf => by omega
  | f + 1, i, h, hf => by
    rw [remL, if_pos h]
    have h1 := lastI_ge h
    have h2 := lastI_lt h
    refine ⟨by simp, ?_⟩
    by_cases e : lastI S i + 1 < S.length
    · obtain ⟨h3, h4⟩ := remL_last (S := S) f (lastI S i + 1) e (by omega)
      obtain ⟨r, hr⟩ : ∃ r, r = remL S f (lastI S i + 1) := ⟨_, rfl⟩
      rw [← hr] at h3 h4 ⊢
      rw [List.length_cons, show r.length + 1 - 1 = (r.length - 1) + 1 by omega, List.getD_cons_succ]
      exact h4
    · rw [remL_end f _ (by omega)]
      simp
      omega
theorem rise_at {K : List Nat} (h : K.Pairwise (· < ·)) {i j : Nat} (hij : i < j) (hj : j < K.length) : K.getD i 0 < K.getD j 0 := by
  have := List.pairwise_iff_getElem.1 h i j (by omega) hj hij
  simpa [List.getD, List.getElem?_eq_getElem hj, List.getElem?_eq_getElem (show i < K.length by omega)] using this

/-- One frame's values. -/
def vAt (c : NormC) (st : List UInt8) (fs : List (List UInt8)) (k : Nat) : List UInt8 := k1.vars c (k1.after c st (fs.take k)) (fs.getD k [])
theorem lpRunAt (c : NormC) : ∀ (fs : List (List UInt8)) (st : List UInt8), k1.run c st fs = (List.range fs.length).map (vAt c st fs)
  | [], st => rfl
  | f :: r, st => by
    rw [Kd.run, lpRunAt c r, List.length_cons, List.range_succ_eq_map, List.map_cons, List.map_map]
    rfl
theorem lpAn (a b : UInt8) : (k1.an a b).toNat = 1 ↔ a.toNat = 1 ∧ b.toNat = 1 := by
  have h := and1_le a.toNat b.toNat
  show (UInt8.ofNat (and1 a.toNat b.toNat)).toNat = 1 ↔ _
  rw [UInt8.toNat_ofNat', Nat.mod_eq_of_lt (by omega)]
  unfold and1
  split
  · rename_i h1; rcases h1 with h1 | h1 <;> omega
  · split <;> omega
theorem lpCons (vars : List UInt8) : ∀ (l : List Nat) (a : UInt8), (k1.cons vars a l).toNat = 1 ↔ a.toNat = 1 ∧ ∀ x ∈ l, (k1.val vars x).toNat = 1
  | [], a => by simp [Kd.cons]
  | y :: r, a => by
    have e : k1.cons vars a (y :: r) = k1.cons vars (k1.an a (k1.val vars y)) r := rfl
    rw [e, lpCons vars r, lpAn]
    simp only [List.mem_cons, forall_eq_or_imp]
    exact ⟨fun ⟨⟨h1, h2⟩, h3⟩ => ⟨h1, h2, h3⟩, fun ⟨h1, h2, h3⟩ => ⟨⟨h1, h2⟩, h3⟩⟩
theorem lpSum (c : NormC) (bad : Nat) : ∀ (l : List (List UInt8)) (p : UInt8 × UInt8), (k1.sum c bad p l).1.toNat = 1 ↔ p.1.toNat = 1 ∧ ∀ vars ∈ l, ∀ x ∈ c.cons, (k1.val vars x).toNat = 1
  | [], p => by simp [Kd.sum]
  | v :: r, p => by
    have e : k1.sum c bad p (v :: r) = k1.sum c bad (k1.cons v p.1 c.cons, k1.val v (c.bads.getD bad 0)) r := rfl
    rw [e, lpSum c bad r, lpCons]
    simp only [List.mem_cons, forall_eq_or_imp]
    exact ⟨fun ⟨⟨h1, h2⟩, h3⟩ => ⟨h1, h2, h3⟩, fun ⟨h1, h2, h3⟩ => ⟨⟨h1, h2⟩, h3⟩⟩
theorem lpVerdict (c : NormC) (bad : Nat) (st : List UInt8) (fs : List (List UInt8)) (h0 : 0 < fs.length) :
    (k1.verdict c bad st fs).toNat = 1 ↔ (∀ k, k < fs.length → ∀ x ∈ c.cons, (k1.val (vAt c st fs k) x).toNat = 1) ∧ (k1.val (vAt c st fs (fs.length - 1)) (c.bads.getD bad 0)).toNat = 1 := by
  have e : k1.verdict c bad st fs = k1.an (k1.sum c bad (k1.nt k1.z, k1.z) (k1.run c st fs)).1 (k1.sum c bad (k1.nt k1.z, k1.z) (k1.run c st fs)).2 := rfl
  have e2 : (k1.sum c bad (k1.nt k1.z, k1.z) (k1.run c st fs)).2 = k1.val (vAt c st fs (fs.length - 1)) (c.bads.getD bad 0) := by
    obtain ⟨m, hm⟩ : ∃ m, fs.length = m + 1 := ⟨fs.length - 1, by omega⟩
    rw [lpRunAt, hm, List.range_succ, List.map_append, List.map_cons, List.map_nil, Kd.sum_snoc]
    rfl
  rw [e, lpAn, lpSum, e2, lpRunAt]
  have e3 : (k1.nt k1.z).toNat = 1 := by decide
  constructor
  · rintro ⟨⟨_, h1⟩, h2⟩
    exact ⟨fun k hk x hx => h1 _ (List.mem_map.2 ⟨k, by simpa using hk, rfl⟩) x hx, h2⟩
  · rintro ⟨h1, h2⟩
    refine ⟨⟨e3, fun v hv x hx => ?_⟩, h2⟩
    obtain ⟨k, hk, rfl⟩ := List.mem_map.1 hv
    exact h1 k (by simpa using hk) x hx

theorem zeroL_zeroL (l : List UInt8) : zeroL (zeroL l) = zeroL l := by
  unfold zeroL
  rw [List.map_map]
  refine List.map_congr_left fun u _ => ?_
  show zeroU (zeroU u) = zeroU u
  unfold zeroU
  split
  · rfl
  · rfl
section
variable {c : NormC} {t : TraceC}
theorem cut_read : readT (cutT c t) = cutT c t := by
  unfold readT cutT
  simp only [zeroL_zeroL, List.map_map]
  congr 1
  exact List.map_congr_left fun k _ => zeroL_zeroL _
theorem cut_len : (cutT c t).frames.length = (remS (statesL c t)).length := by simp [cutT]
theorem cut_frame {j : Nat} (hj : j < (remS (statesL c t)).length) : (cutT c t).frames.getD j [] = (readT t).frames.getD ((remS (statesL c t)).getD j 0) [] := by
  rw [readT_frame]
  simp [cutT, List.getD, List.getElem?_eq_getElem hj]
theorem after_rem (h : FitsC c (readT t)) : ∀ (f i : Nat), i < t.frames.length → t.frames.length ≤ i + f → ∀ j, j < (remL (statesL c t) f i).length →
    k1.after c ((statesL c t).getD i []) (((remL (statesL c t) f i).map fun k => zeroL (t.frames.getD k [])).take j) = (statesL c t).getD ((remL (statesL c t) f i).getD j 0) []
  | 0, i, h1, h2, _, _ => by omega
  | f + 1, i, h1, h2, j, hj => by
    have hl := statesL_len c t
    have hnl : (readT t).frames.length = t.frames.length := by simp [readT]
    have h3 : i < (statesL c t).length := by rw [hl]; exact h1
    have h4 := lastI_ge h3
    have h5 := lastI_lt h3
    rw [remL, if_pos h3] at hj ⊢
    cases j with
    | zero =>
      rw [List.take_zero]
      show (statesL c t).getD i [] = _
      rw [List.getD_cons_zero, lastI_same h3]
    | succ j =>
      rw [List.map_cons, List.take_succ_cons, List.getD_cons_succ, Kd.after]
      rw [List.length_cons] at hj
      have e : lastI (statesL c t) i + 1 < t.frames.length := by
        rcases Nat.lt_or_ge (lastI (statesL c t) i + 1) t.frames.length with h6 | h6
        · exact h6
        · rw [remL_end f _ (by rw [hl]; exact h6)] at hj; simp at hj
      have hst : k1.next c (k1.vars c ((statesL c t).getD i []) (zeroL (t.frames.getD (lastI (statesL c t) i) []))) = (statesL c t).getD (lastI (statesL c t) i + 1) [] := by
        rw [← lastI_same h3, ← readT_frame, statesL_at c t (by omega), statesL_at c t e, stAt_succ (by rw [hnl]; omega)]
      rw [hst]
      exact after_rem h f _ e (by omega) j (by omega)
theorem cut_state (h : FitsC c t) {j : Nat} (hj : j < (remS (statesL c t)).length) : stAt c (cutT c t) j = (statesL c t).getD ((remS (statesL c t)).getD j 0) [] := by
  have h0 : (statesL c t).getD 0 [] = zeroL t.init := by rw [statesL_at c t (by have := h.one; omega)]; rfl
  have := after_rem h.read (statesL c t).length 0 (by have := h.one; omega) (by rw [statesL_len]; omega) j hj
  rw [h0] at this
  exact this
theorem rem_pos (h : FitsC c t) : 0 < (remS (statesL c t)).length ∧ (remS (statesL c t)).getD ((remS (statesL c t)).length - 1) 0 = t.frames.length - 1 := by
  have := remL_last (S := statesL c t) (statesL c t).length 0 (by rw [statesL_len]; have := h.one; omega) (by omega)
  exact ⟨this.1, this.2.trans (by rw [statesL_len])⟩
theorem rem_lt {j : Nat} (hj : j < (remS (statesL c t)).length) : (remS (statesL c t)).getD j 0 < t.frames.length := by
  have := remL_lt (S := statesL c t) (statesL c t).length 0 _ (getD_mem (d := 0) hj)
  exact Nat.lt_of_lt_of_eq this (statesL_len c t)
theorem cut_fits (h : FitsC c t) : FitsC c (cutT c t) := by
  have hR := h.read
  have hnl : (readT t).frames.length = t.frames.length := by simp [readT]
  have hK := rem_pos h
  have hlen := remS_len (statesL c t)
  rw [statesL_len] at hlen
  refine ⟨h.may, h.pos, h.bad, hR.init, hR.inits, hR.resets, ?_, ?_, fun k hk => ?_, fun f hf u hu => ?_⟩
  · rw [cut_len]; exact hK.1
  · rw [cut_len]; have := h.few; omega
  · rw [cut_len] at hk
    rw [cut_frame hk]
    exact hR.frames _ (by rw [hnl]; exact rem_lt hk)
  · obtain ⟨k, hk, rfl⟩ := List.mem_iff_getElem.1 hf
    rw [cut_len] at hk
    have e : (cutT c t).frames.getD k [] = (cutT c t).frames[k] := by simp [List.getD, List.getElem?_eq_getElem (show k < (cutT c t).frames.length by rw [cut_len]; exact hk)]
    rw [← e, cut_frame hk] at hu
    exact hR.values _ (getD_mem (by rw [hnl]; exact rem_lt hk)) u hu
theorem cut_vAt (h : FitsC c t) {j : Nat} (hj : j < (remS (statesL c t)).length) : vAt c (cutT c t).init (cutT c t).frames j = vAt c (readT t).init (readT t).frames ((remS (statesL c t)).getD j 0) := by
  have e1 := cut_state h hj
  rw [statesL_at c t (rem_lt hj)] at e1
  unfold vAt
  rw [cut_frame hj]
  show k1.vars c (stAt c (cutT c t) j) _ = k1.vars c (stAt c (readT t) _) _
  rw [e1]
theorem cut_fails (h : FitsC c t) (hf : failsB c t = true) : failsB c (cutT c t) = true := by
  have hnl : (readT t).frames.length = t.frames.length := by simp [readT]
  have hK := rem_pos h
  unfold failsB at hf ⊢
  rw [decide_eq_true_eq] at hf ⊢
  rw [cut_read]
  rw [lpVerdict _ _ _ _ (by rw [hnl]; exact h.one)] at hf
  rw [lpVerdict _ _ _ _ (by rw [cut_len]; exact hK.1)]
  obtain ⟨h1, h2⟩ := hf
  refine ⟨fun k hk x hx => ?_, ?_⟩
  · rw [cut_len] at hk
    rw [cut_vAt h hk]
    exact h1 _ (by rw [hnl]; exact rem_lt hk) x hx
  · rw [cut_len, cut_vAt h (by omega), hK.2]
    rw [hnl] at h2
    exact h2
theorem cut_states (h : FitsC c t) {j : Nat} (hj : j < (remS (statesL c t)).length) : (statesL c (cutT c t)).getD j [] = (statesL c t).getD ((remS (statesL c t)).getD j 0) [] := by
  rw [statesL_at c (cutT c t) (by rw [cut_len]; exact hj), cut_read]
  exact cut_state h hj
theorem cut_other (h : FitsC c t) {i j : Nat} (hij : i < j) (hj : j < (remS (statesL c t)).length) : (statesL c (cutT c t)).getD j [] ≠ (statesL c (cutT c t)).getD i [] := by
  rw [cut_states h hj, cut_states h (by omega)]
  refine remL_lone (statesL c t).length 0 _ (getD_mem (by exact Nat.lt_trans hij hj)) _ ?_ (by rw [statesL_len]; exact rem_lt hj)
  exact rise_at (remL_rise _ _) hij hj
end

/-- Where no state comes twice, each frame is the last one with its state. -/
theorem lastI_lone {S : List (List UInt8)} (h : ∀ i j, i < j → j < S.length → S.getD j [] ≠ S.getD i []) {i : Nat} (hi : i < S.length) : lastI S i = i := by
  have h1 := lastI_ge hi
  have h2 := lastI_lt hi
  have h3 := lastI_same hi
  by_cases e : lastI S i = i
  · exact e
  · exact absurd h3 (h i _ (by omega) h2)
theorem remL_lone_all {S : List (List UInt8)} (h : ∀ i j, i < j → j < S.length → S.getD j [] ≠ S.getD i []) : ∀ (f i : Nat), S.length ≤ i + f → remL S f i = List.range' i (S.length - i)
  | 0, i, hf => by rw [show S.length - i = 0 by omega]; rfl
  | f + 1, i, hf => by
    rw [remL]
    split
    · rename_i h1
      rw [lastI_lone h h1, remL_lone_all h f (i + 1) (by omega), show S.length - i = (S.length - (i + 1)) + 1 by omega, List.range'_succ]
    · rw [show S.length - i = 0 by omega]; rfl
theorem remS_lone {S : List (List UInt8)} (h : ∀ i j, i < j → j < S.length → S.getD j [] ≠ S.getD i []) : remS S = List.range S.length := by
  unfold remS
  rw [remL_lone_all h _ _ (by omega), Nat.sub_zero, List.range_eq_range']
theorem again_lone {S : List (List UInt8)} (h : ∀ i j, i < j → j < S.length → S.getD j [] ≠ S.getD i []) : againE S = .returned (.tuple #[.int .i64 0, .int .i64 0, .bool false]) :=
  again_miss fun j hj => by rw [lastI_lone h hj]; exact Nat.le_refl _
theorem cut_cut {c : NormC} {t : TraceC} (h : FitsC c t) : cutT c (cutT c t) = cutT c t ∧ remS (statesL c (cutT c t)) = List.range (remS (statesL c t)).length := by
  have hl : (statesL c (cutT c t)).length = (remS (statesL c t)).length := by rw [statesL_len, cut_len]
  have hr : remS (statesL c (cutT c t)) = List.range (remS (statesL c t)).length := by
    rw [remS_lone (fun i j hij hj => cut_other h hij (by rw [← hl]; exact hj)), hl]
  refine ⟨?_, hr⟩
  have e : ∀ x : TraceC, readT x = x → remS (statesL c x) = List.range x.frames.length → cutT c x = x := fun x hx hy => by
    obtain ⟨b, i, fs⟩ := x
    unfold readT at hx
    injection hx with _ h1 h2
    simp only at h1 h2 hy
    unfold cutT
    rw [hy]
    simp only [h1]
    congr 1
    apply List.ext_getElem (by simp)
    intro k k1 k2
    have h3 : (fs.map zeroL)[k]'(by simpa using k2) = fs[k] := by simp only [h2]
    simp only [List.getElem_map] at h3
    simpa [List.getD, List.getElem?_eq_getElem k2] using h3
  exact e _ cut_read (by rw [hr, cut_len])
end Go.Proofs.Ytcoehbkjccfhlaa
/- What must hold in a failing trace, under a run's model; the model itself, as a list. -/
namespace Go.Proofs.Ytcoehbkjccfhlaa
open Go Go.RowKit Go.Joins

theorem IsRun.must {M : Nat → Bool} {c : NormC} {t : TraceC} (h : IsRun M c t) (ht : FitsC c t) (hx : TNoX t) :
    (∀ x ∈ mustE c t.bad.toNat t.frames.length, litM M x = true) ↔ (k1.verdict c t.bad.toNat t.init t.frames).toNat = 1 := by
  have h0 : 0 < t.frames.length := ht.one
  rw [lpVerdict c _ _ _ h0]
  have hb : (c.bads.getD t.bad.toNat 0) / 2 ≤ varsN c := by have := ht.may.bads _ (getD_mem (d := 0) ht.bad); omega
  constructor
  · intro hm
    refine ⟨fun k hk x hxc => ?_, ?_⟩
    · have h1 := hm _ (List.mem_append.2 (.inl (upE_mem.2 ⟨k, hk, List.mem_map.2 ⟨x, hxc, rfl⟩⟩)))
      rw [h.lit hx hk (by have := ht.may.cons x hxc; omega)] at h1
      exact of_decide_eq_true h1
    · have h1 := hm _ (List.mem_append.2 (.inr (List.mem_singleton.2 rfl)))
      rw [h.lit hx (by omega) hb] at h1
      exact of_decide_eq_true h1
  · rintro ⟨h1, h2⟩ x hm
    rcases List.mem_append.1 hm with hm | hm
    · obtain ⟨f, hf, hm⟩ := upE_mem.1 hm
      obtain ⟨y, hy, rfl⟩ := List.mem_map.1 hm
      rw [h.lit hx hf (by have := ht.may.cons y hy; omega)]
      exact decide_eq_true (h1 f hf y hy)
    · obtain rfl := List.mem_singleton.1 hm
      rw [h.lit hx (by omega) hb]
      exact decide_eq_true h2
theorem upE_flat {α : Type} {g : Nat → List α} {V : Nat} : ∀ n, (∀ f, f < n → (g f).length = V) → (upE g n).length = n * V
  | 0, _ => by simp [upE_zero]
  | n + 1, h => by rw [upE_succ, List.length_append, upE_flat n (fun f hf => h f (by omega)), h n (by omega), Nat.succ_mul]
theorem upE_at {α : Type} {g : Nat → List α} {V : Nat} (d : α) : ∀ n, (∀ f, f < n → (g f).length = V) → ∀ f i, f < n → i < V → (upE g n).getD (f * V + i) d = (g f).getD i d
  | n + 1, h, f, i, hf, hi => by
    have hl := upE_flat n (fun f hf => h f (by omega))
    rw [upE_succ]
    by_cases e : f < n
    · have h1 : (f + 1) * V ≤ n * V := Nat.mul_le_mul_right _ e
      rw [Nat.succ_mul] at h1
      rw [← upE_at d n (fun f hf => h f (by omega)) f i e hi, List.getD, List.getElem?_append_left (by omega)]
      rfl
    · obtain rfl : f = n := by omega
      rw [List.getD, List.getElem?_append_right (by omega), hl, Nat.add_sub_cancel_left]
      rfl
/-- The model of a run, as a list. -/
def rowM (c : NormC) (t : TraceC) (f : Nat) : List Bool := ((varsAt c t f).drop 1).map fun u => decide (u.toNat = 1)
def modelL (c : NormC) (t : TraceC) : List Bool := false :: true :: upE (rowM c t) t.frames.length
theorem rowM_len {c : NormC} {t : TraceC} (ht : FitsC c t) {f : Nat} (hf : f < t.frames.length) : (rowM c t f).length = varsN c := by
  have := varsAt_len c t ht.init ht.frames f hf
  simp [rowM, this]
theorem modelL_len {c : NormC} {t : TraceC} (ht : FitsC c t) : (modelL c t).length = 2 + t.frames.length * varsN c := by
  unfold modelL
  rw [List.length_cons, List.length_cons, upE_flat _ (fun f hf => rowM_len ht hf)]
  omega
theorem modelL_run {c : NormC} {t : TraceC} (ht : FitsC c t) : IsRun (fun s => (modelL c t).getD s false) c t := by
  refine ⟨rfl, fun f v hf h1 h2 => ?_⟩
  obtain ⟨i, rfl⟩ : ∃ i, v = i + 1 := ⟨v - 1, by omega⟩
  have e : spotE (varsN c) (i + 1) f = f * varsN c + i + 1 + 1 := by unfold spotE; omega
  have hl := varsAt_len c t ht.init ht.frames f hf
  show (modelL c t).getD _ false = _
  rw [e]
  show (upE (rowM c t) t.frames.length).getD (f * varsN c + i) false = _
  rw [upE_at false _ (fun f hf => rowM_len ht hf) f i hf (by omega)]
  unfold rowM
  have hi : i + 1 < (varsAt c t f).length := by omega
  rw [List.getD, List.getElem?_map, List.getElem?_drop, Nat.add_comm 1 i, List.getElem?_eq_getElem hi, List.getD, List.getElem?_eq_getElem hi]
  rfl
end Go.Proofs.Ytcoehbkjccfhlaa
namespace Go.Proofs.Ytcoehbkjccfhlaa
open Go Go.RowKit Go.Joins

/-- What a model says of a clause variable. -/
def modV (bs : List Bool) (k : Nat) : Nat := if bs.getD k false then 1 else 0
theorem modV_le (bs : List Bool) (k : Nat) : modV bs k ≤ 1 := by unfold modV; split <;> omega
set_option maxRecDepth 100000 in
set_option maxHeartbeats 6400000 in
theorem value_any (v f : Nat) (bs : List Bool) (x : Int) (V nf mn mc : Nat) (ma a1 a2 a3 a4 a5 : Option Addr) (n1 c1 n2 c2 n3 c3 n4 c4 n5 c5 : Nat) (w : World) (M U : Nat) (hm : Sees w ma mn mc (bs.map Value.bool)) (hM : w.heap[M]? = some (.cells #[.slice ma mn mc] 32 (0, 0))) (hU : w.heap[U]? = some (.cells #[.int .i64 x, .slice a1 n1 c1, .slice a2 n2 c2, .slice a3 n3 c3, .slice a4 n4 c4, .slice a5 n5 c5, .int .i64 (V : Int), .int .i64 (nf : Int)] 67 (0, 0))) (hV : V ≤ 16384) (hv : v ≤ V) (hf : f ≤ 256) (hlen : spotE V v f < mn) :
    Calls Try.prog 50 #[.int .i64 (v : Int), .int .i64 (f : Int), .pointer (some ⟨M, 0, none⟩), .pointer (some ⟨U, 0, none⟩)] w fun e w' => e = .returned (.int .u8 ((modV bs (spotE V v f) : Nat) : Int)) ∧ Below w.heap.size w w' := by
  have HSP := Lib.hid (fun W => spot_any x ⟨a1, n1, c1, a2, n2, c2, a3, n3, c3, a4, n4, c4, a5, n5, c5⟩ V nf v f hV (by omega) hf W)
  have hl : bs.length = mn := hm.lenMap
  obtain ⟨bm, om, rfl, hbm⟩ := hm.addr (by omega)
  obtain ⟨sp, hsp⟩ : ∃ n, n = spotE V v f := ⟨_, rfl⟩
  rw [← hsp] at HSP hlen ⊢
  have hc := (hm.cell sp hlen).2
  have hc2 : w.cell? ⟨bm, om + sp, none⟩ = some (.bool (bs.getD sp false)) := by rw [hc]; simp [List.getD, List.getElem?_eq_getElem (show sp < bs.length by omega)]
  have HV : Hid (modV bs sp = if bs.getD sp false then 1 else 0) := rfl
  obtain ⟨b, hb⟩ : ∃ b, b = bs.getD sp false := ⟨_, rfl⟩
  rw [← hb] at hc2 HV
  have I1 : (0 : Int) ≤ (sp : Int) := by omega
  have I2 : (sp : Int) < (mn : Int) := by omega
  have HM := Lib.hid hM
  have HU := Lib.hid hU
  have HC := Lib.hid hc2
  unfold uV at HSP
  clear hl hbm hsp hc hc2 hb hm hM hU hV hv hf hlen
  go_enter Try.func50, Try.ntmps50
  go_upto_region 1 with fail
  have p_0 : w.cell? ⟨M, 0, none⟩ = some (.slice (some ⟨bm, om, none⟩) mn mc) := cell_of_block HM.out 0
  have p_1 : w.cell? ⟨U, 0, none⟩ = some (.int .i64 x) := cell_of_block HU.out 0
  have p_2 : w.cell? ⟨U, 1, none⟩ = some (.slice a1 n1 c1) := cell_of_block HU.out 1
  have p_3 : w.cell? ⟨U, 2, none⟩ = some (.slice a2 n2 c2) := cell_of_block HU.out 2
  have p_4 : w.cell? ⟨U, 3, none⟩ = some (.slice a3 n3 c3) := cell_of_block HU.out 3
  have p_5 : w.cell? ⟨U, 4, none⟩ = some (.slice a4 n4 c4) := cell_of_block HU.out 4
  have p_6 : w.cell? ⟨U, 5, none⟩ = some (.slice a5 n5 c5) := cell_of_block HU.out 5
  have p_7 : w.cell? ⟨U, 6, none⟩ = some (.int .i64 (V : Int)) := cell_of_block HU.out 6
  have p_8 : w.cell? ⟨U, 7, none⟩ = some (.int .i64 (nf : Int)) := cell_of_block HU.out 7
  have p_9 : w.cell? ⟨bm, om + sp, none⟩ = some (.bool b) := HC.out
  refine wp_region_noPanic ?_
  refine wp_region_held (S := fun w' => w'.cell? ⟨M, 0, none⟩ = some (.slice (some ⟨bm, om, none⟩) mn mc) ∧ w'.cell? ⟨U, 0, none⟩ = some (.int .i64 x) ∧ w'.cell? ⟨U, 1, none⟩ = some (.slice a1 n1 c1) ∧ w'.cell? ⟨U, 2, none⟩ = some (.slice a2 n2 c2) ∧ w'.cell? ⟨U, 3, none⟩ = some (.slice a3 n3 c3) ∧ w'.cell? ⟨U, 4, none⟩ = some (.slice a4 n4 c4) ∧ w'.cell? ⟨U, 5, none⟩ = some (.slice a5 n5 c5) ∧ w'.cell? ⟨U, 6, none⟩ = some (.int .i64 (V : Int)) ∧ w'.cell? ⟨U, 7, none⟩ = some (.int .i64 (nf : Int)) ∧ w'.cell? ⟨bm, om + sp, none⟩ = some (.bool b)) (by kernel_rfl) ?_
  generalize hYY : ({ w with drawn := w.drawn + 1 } : World) = Y0
  have HY0 : Hid (Below w.heap.size w Y0) := by subst hYY; exact (Below.refl _ _).drew
  have HS0 : Hid (Y0.cell? ⟨M, 0, none⟩ = some (.slice (some ⟨bm, om, none⟩) mn mc) ∧ Y0.cell? ⟨U, 0, none⟩ = some (.int .i64 x) ∧ Y0.cell? ⟨U, 1, none⟩ = some (.slice a1 n1 c1) ∧ Y0.cell? ⟨U, 2, none⟩ = some (.slice a2 n2 c2) ∧ Y0.cell? ⟨U, 3, none⟩ = some (.slice a3 n3 c3) ∧ Y0.cell? ⟨U, 4, none⟩ = some (.slice a4 n4 c4) ∧ Y0.cell? ⟨U, 5, none⟩ = some (.slice a5 n5 c5) ∧ Y0.cell? ⟨U, 6, none⟩ = some (.int .i64 (V : Int)) ∧ Y0.cell? ⟨U, 7, none⟩ = some (.int .i64 (nf : Int)) ∧ Y0.cell? ⟨bm, om + sp, none⟩ = some (.bool b)) := ⟨cell_below p_0 HY0.out, cell_below p_1 HY0.out, cell_below p_2 HY0.out, cell_below p_3 HY0.out, cell_below p_4 HY0.out, cell_below p_5 HY0.out, cell_below p_6 HY0.out, cell_below p_7 HY0.out, cell_below p_8 HY0.out, cell_below p_9 HY0.out⟩
  clear hYY
  clear p_0 p_1 p_2 p_3 p_4 p_5 p_6 p_7 p_8 p_9
  refine wpAnyH_take (i := 0) (v := ?_) (by simp only [List.getElem?_toArray, List.getElem?_cons_zero]; rfl) (by kernel_rfl) (by kernel_rfl) (by kernel_rfl) (fun _ _ _ h => h) (Or.inl ⟨by rfl, ?_⟩) HS0.out ?_
  rotate_left
  · intro w hSw
    (try dsimp only at hSw)
    obtain ⟨q0_, q1_, q2_, q3_, q4_, q5_, q6_, q7_, q8_, q9_⟩ := hSw
    go_simp
    try with_reducible rfl
  try simp only [Act.put, List.setIfInBounds_toArray, List.set_cons_zero, List.set_cons_succ]
  refine wpAnyH_take (i := 1) (v := ?_) (by simp only [List.getElem?_toArray, List.getElem?_cons_zero, List.getElem?_cons_succ]; rfl) (by kernel_rfl) (by kernel_rfl) (by kernel_rfl) (fun _ _ _ h => h) (Or.inl ⟨by rfl, ?_⟩) HS0.out ?_
  rotate_left
  · intro w hSw
    (try dsimp only at hSw)
    obtain ⟨q0_, q1_, q2_, q3_, q4_, q5_, q6_, q7_, q8_, q9_⟩ := hSw
    go_simp
    try with_reducible rfl
  try simp only [Act.put, List.setIfInBounds_toArray, List.set_cons_zero, List.set_cons_succ]
  refine wpAnyH_take (i := 2) (v := ?_) (by simp only [List.getElem?_toArray, List.getElem?_cons_zero, List.getElem?_cons_succ]; rfl) (by kernel_rfl) (by kernel_rfl) (by kernel_rfl) (fun _ _ _ h => h) (Or.inl ⟨by rfl, ?_⟩) HS0.out ?_
  rotate_left
  · intro w hSw
    (try dsimp only at hSw)
    obtain ⟨q0_, q1_, q2_, q3_, q4_, q5_, q6_, q7_, q8_, q9_⟩ := hSw
    go_simp
    try with_reducible rfl
  try simp only [Act.put, List.setIfInBounds_toArray, List.set_cons_zero, List.set_cons_succ]
  refine wpAnyH_take (i := 3) (v := ?_) (by simp only [List.getElem?_toArray, List.getElem?_cons_zero, List.getElem?_cons_succ]; rfl) (by kernel_rfl) (by kernel_rfl) (by kernel_rfl) (fun _ _ _ h => h) (Or.inl ⟨by rfl, ?_⟩) HS0.out ?_
  rotate_left
  · intro w hSw
    (try dsimp only at hSw)
    obtain ⟨q0_, q1_, q2_, q3_, q4_, q5_, q6_, q7_, q8_, q9_⟩ := hSw
    go_simp
    try with_reducible rfl
  try simp only [Act.put, List.setIfInBounds_toArray, List.set_cons_zero, List.set_cons_succ]
  refine wpAnyH_ready (rs := [4]) (by kernel_rfl) (by simp) ?_
  refine AllReadyH.cons (by simp only [List.getElem?_toArray, List.getElem?_cons_zero, List.getElem?_cons_succ]; rfl) (fun K hK => ?_) AllReadyH.nil
  go_simp
  refine (HSP.out _).mono ?_
  rintro e s1 ⟨rfl, b1⟩
  have HY1 := Lib.hid (ext_trans HY0.out b1)
  have HS1 : Hid (s1.cell? ⟨M, 0, none⟩ = some (.slice (some ⟨bm, om, none⟩) mn mc) ∧ s1.cell? ⟨U, 0, none⟩ = some (.int .i64 x) ∧ s1.cell? ⟨U, 1, none⟩ = some (.slice a1 n1 c1) ∧ s1.cell? ⟨U, 2, none⟩ = some (.slice a2 n2 c2) ∧ s1.cell? ⟨U, 3, none⟩ = some (.slice a3 n3 c3) ∧ s1.cell? ⟨U, 4, none⟩ = some (.slice a4 n4 c4) ∧ s1.cell? ⟨U, 5, none⟩ = some (.slice a5 n5 c5) ∧ s1.cell? ⟨U, 6, none⟩ = some (.int .i64 (V : Int)) ∧ s1.cell? ⟨U, 7, none⟩ = some (.int .i64 (nf : Int)) ∧ s1.cell? ⟨bm, om + sp, none⟩ = some (.bool b)) := ⟨cell_below HS0.out.1 b1, cell_below HS0.out.2.1 b1, cell_below HS0.out.2.2.1 b1, cell_below HS0.out.2.2.2.1 b1, cell_below HS0.out.2.2.2.2.1 b1, cell_below HS0.out.2.2.2.2.2.1 b1, cell_below HS0.out.2.2.2.2.2.2.1 b1, cell_below HS0.out.2.2.2.2.2.2.2.1 b1, cell_below HS0.out.2.2.2.2.2.2.2.2.1 b1, cell_below HS0.out.2.2.2.2.2.2.2.2.2 b1⟩
  refine hK.out _ _ HS1.out (fun _ => ?_)
  clear hK K
  try simp only [Act.put, List.setIfInBounds_toArray, List.set_cons_zero, List.set_cons_succ]
  clear b1
  refine wpAnyH_take (i := 5) (v := ?_) (by simp only [List.getElem?_toArray, List.getElem?_cons_zero, List.getElem?_cons_succ]; rfl) (by kernel_rfl) (by kernel_rfl) (by kernel_rfl) (fun _ _ _ h => h) (Or.inl ⟨by rfl, ?_⟩) HS1.out ?_
  rotate_left
  · intro w hSw
    (try dsimp only at hSw)
    obtain ⟨q0_, q1_, q2_, q3_, q4_, q5_, q6_, q7_, q8_, q9_⟩ := hSw
    go_simp
    try with_reducible rfl
  try simp only [Act.put, List.setIfInBounds_toArray, List.set_cons_zero, List.set_cons_succ]
  refine wpAnyH_take (i := 6) (v := ?_) (by simp only [List.getElem?_toArray, List.getElem?_cons_zero, List.getElem?_cons_succ]; rfl) (by kernel_rfl) (by kernel_rfl) (by kernel_rfl) (fun _ _ _ h => h) (Or.inl ⟨by rfl, ?_⟩) HS1.out ?_
  rotate_left
  · intro w hSw
    (try dsimp only at hSw)
    obtain ⟨q0_, q1_, q2_, q3_, q4_, q5_, q6_, q7_, q8_, q9_⟩ := hSw
    go_simp
    try with_reducible rfl
  try simp only [Act.put, List.setIfInBounds_toArray, List.set_cons_zero, List.set_cons_succ]
  refine wpAnyH_done (by kernel_rfl) ?_ _
  refine NoPanic.normal ?_
  cases b with
  | true =>
    go_wp2
    go_ret
    exact ⟨by rw [HV.out]; rfl, HY1.out⟩
  | false =>
    go_wp2
    go_ret
    exact ⟨by rw [HV.out]; rfl, HY1.out⟩
end Go.Proofs.Ytcoehbkjccfhlaa
