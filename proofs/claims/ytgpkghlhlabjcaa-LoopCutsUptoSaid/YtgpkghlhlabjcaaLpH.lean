/- What LoopCuts' main case stands on. -/
import Derived.Test.YtgpkghlhlabjcaaLpA
import Derived.Test.YtgpkghlhlabjcaaLpE
import Derived.Test.YtgpkghlhlabjcaaLpC
import Derived.Test.YtgpkghlhlabjcaaLpB
import Derived.Test.YtgpkghlhlabjcaaLpBB
/- What remains of a trace fails, with other states each frame; cut once more it stays (on lists). -/
namespace Go.Proofs.Ytgpkghlhlabjcaa
open Go Go.RowKit Go.Joins

theorem remL_ge {S : List (List UInt8)} : ∀ (f i : Nat), ∀ x ∈ remL S f i, i ≤ x
  | 0, _, x, h => by cases h
  | f + 1, i, x, h => by
    rw [remL] at h
    split at h
    · rename_i h1
      have h3 := lastI_ge h1
      rcases List.mem_cons.1 h with rfl | h2
      · exact h3
      · have := remL_ge f _ x h2
        omega
    · cases h
theorem remL_rise {S : List (List UInt8)} : ∀ (f i : Nat), (remL S f i).Pairwise (· < ·)
  | 0, _ => List.Pairwise.nil
  | f + 1, i => by
    rw [remL]
    split
    · exact List.Pairwise.cons (fun x hx => remL_ge f _ x hx) (remL_rise f _)
    · exact List.Pairwise.nil
theorem remL_lone {S : List (List UInt8)} : ∀ (f i : Nat), ∀ k ∈ remL S f i, ∀ j, k < j → j < S.length → S.getD j [] ≠ S.getD k []
  | 0, _, k, h => by cases h
  | f + 1, i, k, h => by
    rw [remL] at h
    split at h
    · rename_i h1
      rcases List.mem_cons.1 h with rfl | h2
      · intro j hj hn
        rw [lastI_same h1]
        exact lastI_none hj hn
      · exact remL_lone f _ k h2
    · cases h
theorem remL_last {S : List (List UInt8)} : ∀ (f i : Nat), i < S.length → S.length ≤ i + f → 0 < (remL S f i).length ∧ (remL S f i).getD ((remL S f i).length - 1) 0 = S.length - 1
  | 0, i, h, hf => by omega
  | f + 1, i, h, hf => by
    rw [remL, if_pos h]
    have h1 := lastI_ge h
    have h2 := lastI_lt h
    refine ⟨by simp, ?_⟩
    by_cases e : lastI S i + 1 < S.length
    · obtain ⟨h3, h4⟩ := remL_last (S := S) f (lastI S i + 1) e (by omega)
      obtain ⟨r, hr⟩ : ∃ r, r = remL S f (lastI S i + 1) := ⟨_, rfl⟩
      rw [← hr] at h3 h4 ⊢
      rw [List.length_cons, show r.length + 1 - 1 = (r.length - 1) + 1 by omega, List.getD_cons_succ]
      exact h4
    · rw [remL_end f _ (by omega)]
      simp
      omega
theorem rise_at {K : List Nat} (h : K.Pairwise (· < ·)) {i j : Nat} (hij : i < j) (hj : j < K.length) : K.getD i 0 < K.getD j 0 := by
  have := List.pairwise_iff_getElem.1 h i j (by omega) hj hij
  simpa [List.getD, List.getElem?_eq_getElem hj, List.getElem?_eq_getElem (show i < K.length by omega)] using this

/-- One frame's values. -/
def vAt (c : NormC) (st : List UInt8) (fs : List (List UInt8)) (k : Nat) : List UInt8 := k1.vars c (k1.after c st (fs.take k)) (fs.getD k [])
theorem lpRunAt (c : NormC) : ∀ (fs : List (List UInt8)) (st : List UInt8), k1.run c st fs = (List.range fs.length).map (vAt c st fs)
  | [], st => rfl
  | f :: r, st => by
    rw [Kd.run, lpRunAt c r, List.length_cons, List.range_succ_eq_map, List.map_cons, List.map_map]
    rfl
theorem lpAn (a b : UInt8) : (k1.an a b).toNat = 1 ↔ a.toNat = 1 ∧ b.toNat = 1 := by
  have h := and1_le a.toNat b.toNat
  show (UInt8.ofNat (and1 a.toNat b.toNat)).toNat = 1 ↔ _
  rw [UInt8.toNat_ofNat', Nat.mod_eq_of_lt (by omega)]
  unfold and1
  split
  · rename_i h1; rcases h1 with h1 | h1 <;> omega
  · split <;> omega
theorem lpCons (vars : List UInt8) : ∀ (l : List Nat) (a : UInt8), (k1.cons vars a l).toNat = 1 ↔ a.toNat = 1 ∧ ∀ x ∈ l, (k1.val vars x).toNat = 1
  | [], a => by simp [Kd.cons]
  | y :: r, a => by
    have e : k1.cons vars a (y :: r) = k1.cons vars (k1.an a (k1.val vars y)) r := rfl
    rw [e, lpCons vars r, lpAn]
    simp only [List.mem_cons, forall_eq_or_imp]
    exact ⟨fun ⟨⟨h1, h2⟩, h3⟩ => ⟨h1, h2, h3⟩, fun ⟨h1, h2, h3⟩ => ⟨⟨h1, h2⟩, h3⟩⟩
theorem lpSum (c : NormC) (bad : Nat) : ∀ (l : List (List UInt8)) (p : UInt8 × UInt8), (k1.sum c bad p l).1.toNat = 1 ↔ p.1.toNat = 1 ∧ ∀ vars ∈ l, ∀ x ∈ c.cons, (k1.val vars x).toNat = 1
  | [], p => by simp [Kd.sum]
  | v :: r, p => by
    have e : k1.sum c bad p (v :: r) = k1.sum c bad (k1.cons v p.1 c.cons, k1.val v (c.bads.getD bad 0)) r := rfl
    rw [e, lpSum c bad r, lpCons]
    simp only [List.mem_cons, forall_eq_or_imp]
    exact ⟨fun ⟨⟨h1, h2⟩, h3⟩ => ⟨h1, h2, h3⟩, fun ⟨h1, h2, h3⟩ => ⟨⟨h1, h2⟩, h3⟩⟩
theorem lpVerdict (c : NormC) (bad : Nat) (st : List UInt8) (fs : List (List UInt8)) (h0 : 0 < fs.length) :
    (k1.verdict c bad st fs).toNat = 1 ↔ (∀ k, k < fs.length → ∀ x ∈ c.cons, (k1.val (vAt c st fs k) x).toNat = 1) ∧ (k1.val (vAt c st fs (fs.length - 1)) (c.bads.getD bad 0)).toNat = 1 := by
  have e : k1.verdict c bad st fs = k1.an (k1.sum c bad (k1.nt k1.z, k1.z) (k1.run c st fs)).1 (k1.sum c bad (k1.nt k1.z, k1.z) (k1.run c st fs)).2 := rfl
  have e2 : (k1.sum c bad (k1.nt k1.z, k1.z) (k1.run c st fs)).2 = k1.val (vAt c st fs (fs.length - 1)) (c.bads.getD bad 0) := by
    obtain ⟨m, hm⟩ : ∃ m, fs.length = m + 1 := ⟨fs.length - 1, by omega⟩
    rw [lpRunAt, hm, List.range_succ, List.map_append, List.map_cons, List.map_nil, Kd.sum_snoc]
    rfl
  rw [e, lpAn, lpSum, e2, lpRunAt]
  have e3 : (k1.nt k1.z).toNat = 1 := by decide
  constructor
  · rintro ⟨⟨_, h1⟩, h2⟩
    exact ⟨fun k hk x hx => h1 _ (List.mem_map.2 ⟨k, by simpa using hk, rfl⟩) x hx, h2⟩
  · rintro ⟨h1, h2⟩
    refine ⟨⟨e3, fun v hv x hx => ?_⟩, h2⟩
    obtain ⟨k, hk, rfl⟩ := List.mem_map.1 hv
    exact h1 k (by simpa using hk) x hx

theorem zeroL_zeroL (l : List UInt8) : zeroL (zeroL l) = zeroL l := by
  unfold zeroL
  rw [List.map_map]
  refine List.map_congr_left fun u _ => ?_
  show zeroU (zeroU u) = zeroU u
  unfold zeroU
  split
  · rfl
  · rfl
section
variable {c : NormC} {t : TraceC}
theorem cut_read : readT (cutT c t) = cutT c t := by
  unfold readT cutT
  simp only [zeroL_zeroL, List.map_map]
  congr 1
  exact List.map_congr_left fun k _ => zeroL_zeroL _
theorem cut_len : (cutT c t).frames.length = (remS (statesL c t)).length := by simp [cutT]
theorem cut_frame {j : Nat} (hj : j < (remS (statesL c t)).length) : (cutT c t).frames.getD j [] = (readT t).frames.getD ((remS (statesL c t)).getD j 0) [] := by
  rw [readT_frame]
  simp [cutT, List.getD, List.getElem?_eq_getElem hj]
theorem after_rem (h : FitsC c (readT t)) : ∀ (f i : Nat), i < t.frames.length → t.frames.length ≤ i + f → ∀ j, j < (remL (statesL c t) f i).length →
    k1.after c ((statesL c t).getD i []) (((remL (statesL c t) f i).map fun k => zeroL (t.frames.getD k [])).take j) = (statesL c t).getD ((remL (statesL c t) f i).getD j 0) []
  | 0, i, h1, h2, _, _ => by omega
  | f + 1, i, h1, h2, j, hj => by
    have hl := statesL_len c t
    have hnl : (readT t).frames.length = t.frames.length := by simp [readT]
    have h3 : i < (statesL c t).length := by rw [hl]; exact h1
    have h4 := lastI_ge h3
    have h5 := lastI_lt h3
    rw [remL, if_pos h3] at hj ⊢
    cases j with
    | zero =>
      rw [List.take_zero]
      show (statesL c t).getD i [] = _
      rw [List.getD_cons_zero, lastI_same h3]
    | succ j =>
      rw [List.map_cons, List.take_succ_cons, List.getD_cons_succ, Kd.after]
      rw [List.length_cons] at hj
      have e : lastI (statesL c t) i + 1 < t.frames.length := by
        rcases Nat.lt_or_ge (lastI (statesL c t) i + 1) t.frames.length with h6 | h6
        · exact h6
        · rw [remL_end f _ (by rw [hl]; exact h6)] at hj; simp at hj
      have hst : k1.next c (k1.vars c ((statesL c t).getD i []) (zeroL (t.frames.getD (lastI (statesL c t) i) []))) = (statesL c t).getD (lastI (statesL c t) i + 1) [] := by
        rw [← lastI_same h3, ← readT_frame, statesL_at c t (by omega), statesL_at c t e, stAt_succ (by rw [hnl]; omega)]
      rw [hst]
      exact after_rem h f _ e (by omega) j (by omega)
theorem cut_state (h : FitsC c t) {j : Nat} (hj : j < (remS (statesL c t)).length) : stAt c (cutT c t) j = (statesL c t).getD ((remS (statesL c t)).getD j 0) [] := by
  have h0 : (statesL c t).getD 0 [] = zeroL t.init := by rw [statesL_at c t (by have := h.one; omega)]; rfl
  have := after_rem h.read (statesL c t).length 0 (by have := h.one; omega) (by rw [statesL_len]; omega) j hj
  rw [h0] at this
  exact this
theorem rem_pos (h : FitsC c t) : 0 < (remS (statesL c t)).length ∧ (remS (statesL c t)).getD ((remS (statesL c t)).length - 1) 0 = t.frames.length - 1 := by
  have := remL_last (S := statesL c t) (statesL c t).length 0 (by rw [statesL_len]; have := h.one; omega) (by omega)
  exact ⟨this.1, this.2.trans (by rw [statesL_len])⟩
theorem rem_lt {j : Nat} (hj : j < (remS (statesL c t)).length) : (remS (statesL c t)).getD j 0 < t.frames.length := by
  have := remL_lt (S := statesL c t) (statesL c t).length 0 _ (getD_mem (d := 0) hj)
  exact Nat.lt_of_lt_of_eq this (statesL_len c t)
theorem cut_fits (h : FitsC c t) : FitsC c (cutT c t) := by
  have hR := h.read
  have hnl : (readT t).frames.length = t.frames.length := by simp [readT]
  have hK := rem_pos h
  have hlen := remS_len (statesL c t)
  rw [statesL_len] at hlen
  refine ⟨h.may, h.pos, h.bad, hR.init, hR.inits, hR.resets, ?_, ?_, fun k hk => ?_, fun f hf u hu => ?_⟩
  · rw [cut_len]; exact hK.1
  · rw [cut_len]; have := h.few; omega
  · rw [cut_len] at hk
    rw [cut_frame hk]
    exact hR.frames _ (by rw [hnl]; exact rem_lt hk)
  · obtain ⟨k, hk, rfl⟩ := List.mem_iff_getElem.1 hf
    rw [cut_len] at hk
    have e : (cutT c t).frames.getD k [] = (cutT c t).frames[k] := by simp [List.getD, List.getElem?_eq_getElem (show k < (cutT c t).frames.length by rw [cut_len]; exact hk)]
    rw [← e, cut_frame hk] at hu
    exact hR.values _ (getD_mem (by rw [hnl]; exact rem_lt hk)) u hu
theorem cut_vAt (h : FitsC c t) {j : Nat} (hj : j < (remS (statesL c t)).length) : vAt c (cutT c t).init (cutT c t).frames j = vAt c (readT t).init (readT t).frames ((remS (statesL c t)).getD j 0) := by
  have e1 := cut_state h hj
  rw [statesL_at c t (rem_lt hj)] at e1
  unfold vAt
  rw [cut_frame hj]
  show k1.vars c (stAt c (cutT c t) j) _ = k1.vars c (stAt c (readT t) _) _
  rw [e1]
theorem cut_fails (h : FitsC c t) (hf : failsB c t = true) : failsB c (cutT c t) = true := by
  have hnl : (readT t).frames.length = t.frames.length := by simp [readT]
  have hK := rem_pos h
  unfold failsB at hf ⊢
  rw [decide_eq_true_eq] at hf ⊢
  rw [cut_read]
  rw [lpVerdict _ _ _ _ (by rw [hnl]; exact h.one)] at hf
  rw [lpVerdict _ _ _ _ (by rw [cut_len]; exact hK.1)]
  obtain ⟨h1, h2⟩ := hf
  refine ⟨fun k hk x hx => ?_, ?_⟩
  · rw [cut_len] at hk
    rw [cut_vAt h hk]
    exact h1 _ (by rw [hnl]; exact rem_lt hk) x hx
  · rw [cut_len, cut_vAt h (by omega), hK.2]
    rw [hnl] at h2
    exact h2
theorem cut_states (h : FitsC c t) {j : Nat} (hj : j < (remS (statesL c t)).length) : (statesL c (cutT c t)).getD j [] = (statesL c t).getD ((remS (statesL c t)).getD j 0) [] := by
  rw [statesL_at c (cutT c t) (by rw [cut_len]; exact hj), cut_read]
  exact cut_state h hj
theorem cut_other (h : FitsC c t) {i j : Nat} (hij : i < j) (hj : j < (remS (statesL c t)).length) : (statesL c (cutT c t)).getD j [] ≠ (statesL c (cutT c t)).getD i [] := by
  rw [cut_states h hj, cut_states h (by omega)]
  refine remL_lone (statesL c t).length 0 _ (getD_mem (by exact Nat.lt_trans hij hj)) _ ?_ (by rw [statesL_len]; exact rem_lt hj)
  exact rise_at (remL_rise _ _) hij hj
end

/-- Where no state comes twice, each frame is the last one with its state. -/
theorem lastI_lone {S : List (List UInt8)} (h : ∀ i j, i < j → j < S.length → S.getD j [] ≠ S.getD i []) {i : Nat} (hi : i < S.length) : lastI S i = i := by
  have h1 := lastI_ge hi
  have h2 := lastI_lt hi
  have h3 := lastI_same hi
  by_cases e : lastI S i = i
  · exact e
  · exact absurd h3 (h i _ (by omega) h2)
theorem remL_lone_all {S : List (List UInt8)} (h : ∀ i j, i < j → j < S.length → S.getD j [] ≠ S.getD i []) : ∀ (f i : Nat), S.length ≤ i + f → remL S f i = List.range' i (S.length - i)
  | 0, i, hf => by rw [show S.length - i = 0 by omega]; rfl
  | f + 1, i, hf => by
    rw [remL]
    split
    · rename_i h1
      rw [lastI_lone h h1, remL_lone_all h f (i + 1) (by omega), show S.length - i = (S.length - (i + 1)) + 1 by omega, List.range'_succ]
    · rw [show S.length - i = 0 by omega]; rfl
theorem remS_lone {S : List (List UInt8)} (h : ∀ i j, i < j → j < S.length → S.getD j [] ≠ S.getD i []) : remS S = List.range S.length := by
  unfold remS
  rw [remL_lone_all h _ _ (by omega), Nat.sub_zero, List.range_eq_range']
theorem again_lone {S : List (List UInt8)} (h : ∀ i j, i < j → j < S.length → S.getD j [] ≠ S.getD i []) : againE S = .returned (.tuple #[.int .i64 0, .int .i64 0, .bool false]) :=
  again_miss fun j hj => by rw [lastI_lone h hj]; exact Nat.le_refl _
theorem cut_cut {c : NormC} {t : TraceC} (h : FitsC c t) : cutT c (cutT c t) = cutT c t ∧ remS (statesL c (cutT c t)) = List.range (remS (statesL c t)).length := by
  have hl : (statesL c (cutT c t)).length = (remS (statesL c t)).length := by rw [statesL_len, cut_len]
  have hr : remS (statesL c (cutT c t)) = List.range (remS (statesL c t)).length := by
    rw [remS_lone (fun i j hij hj => cut_other h hij (by rw [← hl]; exact hj)), hl]
  refine ⟨?_, hr⟩
  have e : ∀ x : TraceC, readT x = x → remS (statesL c x) = List.range x.frames.length → cutT c x = x := fun x hx hy => by
    obtain ⟨b, i, fs⟩ := x
    unfold readT at hx
    injection hx with _ h1 h2
    simp only at h1 h2 hy
    unfold cutT
    rw [hy]
    simp only [h1]
    congr 1
    apply List.ext_getElem (by simp)
    intro k k1 k2
    have h3 : (fs.map zeroL)[k]'(by simpa using k2) = fs[k] := by simp only [h2]
    simp only [List.getElem_map] at h3
    simpa [List.getD, List.getElem?_eq_getElem k2] using h3
  exact e _ cut_read (by rw [hr, cut_len])
end Go.Proofs.Ytgpkghlhlabjcaa
namespace Go.Proofs.Ytgpkghlhlabjcaa
open Go Go.RowKit Go.Joins

structure MainF (c : NormC) (t : TraceC) (s : CSlots) (st : TSlots) (w : World) (m n : Nat) (K : List Nat) (S S' : List (List UInt8)) (T : TraceC) : Prop where
  mK : K.length = m
  m0 : 0 < m
  mn : m ≤ n
  n256 : n ≤ 256
  nt : st.n2 = n
  lastK : K.getD (m - 1) 0 = n - 1
  ltK : ∀ j, j < m → K.getD j 0 < n
  rise : ∀ i j, i < j → j < m → K.getD i 0 < K.getD j 0
  lenS : S.length = n
  lenS' : S'.length = m
  same : ∀ j, j < m → S'.getD j [] = S.getD (K.getD j 0) []
  other : ∀ i j, i < j → j < m → S'.getD j [] ≠ S'.getD i []
  lenT : T.frames.length = m
  frm : ∀ j, j < m → T.frames.getD j [] = (readT t).frames.getD (K.getD j 0) []
  fa2 : ∀ (x : TSlots) W, Below w.heap.size w W → SeesTr W x T → x.small → Calls Try.prog 18 #[.agg #[.int .i64 c.ins, .slice s.a1 s.n1 s.c1, .slice s.a2 s.n2 s.c2, .slice s.a3 s.n3 s.c3, .slice s.a4 s.n4 s.c4, .slice s.a5 s.n5 s.c5], .agg #[.int .i64 t.bad, .slice x.a1 x.n1 x.c1, .slice x.a2 x.n2 x.c2]] W fun e W' => e = .returned (.tuple #[.bool true, .int .i64 0]) ∧ Below W.heap.size W W'
  cu2 : ∀ (x : TSlots) W, Below w.heap.size w W → SeesTr W x T → x.small → Calls Try.prog 14 #[.agg #[.int .i64 c.ins, .slice s.a1 s.n1 s.c1, .slice s.a2 s.n2 s.c2, .slice s.a3 s.n3 s.c3, .slice s.a4 s.n4 s.c4, .slice s.a5 s.n5 s.c5], .agg #[.int .i64 t.bad, .slice x.a1 x.n1 x.c1, .slice x.a2 x.n2 x.c2]] W fun e W' => ∃ (y : TSlots) (la : Option Addr) (lc : Nat), e = .returned (.tuple #[.agg #[.int .i64 t.bad, .slice y.a1 y.n1 y.c1, .slice y.a2 y.n2 y.c2], .slice la m lc, .int .i64 0]) ∧ SeesTr W' y T ∧ y.small ∧ Below W.heap.size W W'
  ag2 : ∀ (x : TSlots) W, Below w.heap.size w W → SeesTr W x T → x.small → Calls Try.prog 12 #[.agg #[.int .i64 c.ins, .slice s.a1 s.n1 s.c1, .slice s.a2 s.n2 s.c2, .slice s.a3 s.n3 s.c3, .slice s.a4 s.n4 s.c4, .slice s.a5 s.n5 s.c5], .agg #[.int .i64 t.bad, .slice x.a1 x.n1 x.c1, .slice x.a2 x.n2 x.c2]] W fun e W' => e = .returned (.tuple #[.int .i64 0, .int .i64 0, .bool false]) ∧ Below W.heap.size W W'
  sm : ∀ (y x : TSlots) W, SeesTr W y T → SeesTr W x T → y.small → Calls Try.prog 16 #[.agg #[.int .i64 t.bad, .slice y.a1 y.n1 y.c1, .slice y.a2 y.n2 y.c2], .agg #[.int .i64 t.bad, .slice x.a1 x.n1 x.c1, .slice x.a2 x.n2 x.c2]] W fun e W' => e = .returned (.bool true) ∧ Below W.heap.size W W'
  st1 : ∀ W, Below w.heap.size w W → Calls Try.prog 8 #[.agg #[.int .i64 c.ins, .slice s.a1 s.n1 s.c1, .slice s.a2 s.n2 s.c2, .slice s.a3 s.n3 s.c3, .slice s.a4 s.n4 s.c4, .slice s.a5 s.n5 s.c5], .agg #[.int .i64 t.bad, .slice st.a1 st.n1 st.c1, .slice st.a2 st.n2 st.c2]] W fun e W' => ∃ (a : Option Addr) (cc : Nat) (ss : List Slc), e = .returned (.tuple #[.slice a n cc, .int .i64 0]) ∧ SeesF W' a n cc ss S ∧ Below W.heap.size W W'
  st2 : ∀ (x : TSlots) W, Below w.heap.size w W → SeesTr W x T → x.small → Calls Try.prog 8 #[.agg #[.int .i64 c.ins, .slice s.a1 s.n1 s.c1, .slice s.a2 s.n2 s.c2, .slice s.a3 s.n3 s.c3, .slice s.a4 s.n4 s.c4, .slice s.a5 s.n5 s.c5], .agg #[.int .i64 t.bad, .slice x.a1 x.n1 x.c1, .slice x.a2 x.n2 x.c2]] W fun e W' => ∃ (a : Option Addr) (cc : Nat) (ss : List Slc), e = .returned (.tuple #[.slice a m cc, .int .i64 0]) ∧ SeesF W' a m cc ss S' ∧ Below W.heap.size W W'
  rd : ∀ W, Below w.heap.size w W → Calls Try.prog 19 #[.agg #[.int .i64 t.bad, .slice st.a1 st.n1 st.c1, .slice st.a2 st.n2 st.c2]] W fun e W' => ∃ y : TSlots, e = .returned (.agg #[.int .i64 t.bad, .slice y.a1 y.n1 y.c1, .slice y.a2 y.n2 y.c2]) ∧ SeesF W' y.a2 y.n2 y.c2 y.ss (readT t).frames ∧ y.n2 = n ∧ Below W.heap.size W W'
def MainC (c : NormC) (t : TraceC) (s : CSlots) (st : TSlots) (w : World) : Prop :=
  ∃ (m n : Nat) (K : List Nat) (S S' : List (List UInt8)) (T : TraceC), T = cutT c t ∧ K = remS (statesL c t) ∧ MainF c t s st w m n K S S' T

theorem mainC (c : NormC) (t : TraceC) (s : CSlots) (st : TSlots) (w : World) (h : SeesCir w s c) (ht : SeesTr w st t) (hs : s.small) (hst : st.small) (hlo : -9223372036854775808 ≤ c.ins) (hhi : c.ins < 9223372036854775808) (hb1 : -9223372036854775808 ≤ t.bad ∧ t.bad < 9223372036854775808) (hw : Wide c) (hF : FitsC c t) (hf : failsB c t = true) : MainC c t s st w := by
  have hX := cut_fits hF
  have hXq := fits_iff.2 hX
  have hXf := cut_fails hF hf
  have hK := rem_pos hF
  obtain ⟨hcc, hrr⟩ := cut_cut hF
  have hnl : (readT t).frames.length = t.frames.length := by simp [readT]
  have hms : (remS (statesL c t)).length ≤ t.frames.length := by have := remS_len (statesL c t); rw [statesL_len] at this; exact this
  have hco : cutO c (cutT c t) = (cutT c t, List.range (remS (statesL c t)).length, 0) := by
    have e : cutO c (cutT c t) = (cutT c (cutT c t), remS (statesL c (cutT c t)), 0) := (if_pos hXq).trans (if_pos hXf)
    rw [e, hcc, hrr]
  have hbX : -9223372036854775808 ≤ (cutT c t).bad ∧ (cutT c t).bad < 9223372036854775808 := hb1
  refine ⟨(remS (statesL c t)).length, t.frames.length, remS (statesL c t), statesL c t, statesL c (cutT c t), cutT c t, rfl, rfl, ?_⟩
  refine ⟨rfl, hK.1, hms, hF.few, ht.s2.n_eq.symm, hK.2, fun j hj => rem_lt hj, fun i j hij hj => rise_at (remL_rise _ _) hij hj, statesL_len c t, by rw [statesL_len, cut_len], fun j hj => cut_states hF hj, fun i j hij hj => cut_other hF hij hj, cut_len, fun j hj => cut_frame hj, ?_, ?_, ?_, ?_, ?_, ?_, ?_⟩
  · intro x W hb h1 h2
    have h3 := rfails_any c (cutT c t) s x W (h.below hb) h1 hs h2 hlo hhi hbX hw
    have e : failsE c (cutT c t) = .returned (.tuple #[.bool true, .int .i64 0]) := by
      have e : failsE c (cutT c t) = .returned (.tuple #[.bool (failsB c (cutT c t)), .int .i64 0]) := if_pos hXq
      rw [e, hXf]
    rw [e] at h3
    exact h3
  · intro x W hb h1 h2
    refine (cut_any c (cutT c t) s x W (h.below hb) h1 hs h2 hlo hhi hbX).mono ?_
    rintro e W' ⟨y, la, lc, h3, _, h5, h6, h7⟩
    rw [hco] at h3 h5
    simp only [List.length_range] at h3
    exact ⟨y, la, lc, h3, h5.sees, h6, h7⟩
  · intro x W hb h1 h2
    have h3 := again_any c (cutT c t) s x W (h.below hb) h1 hs h2 hlo hhi hbX
    have e : statesO c (cutT c t) = statesL c (cutT c t) := if_pos hXq
    rw [e, again_lone (fun i j hij hj => cut_other hF hij (by rw [statesL_len, cut_len] at hj; exact hj))] at h3
    exact h3
  · intro y x W h1 h2 h3
    have h4 := sametr_any (cutT c t) (cutT c t) y x W h1 h2 h3 hbX hbX
    rw [show decide (cutT c t = cutT c t) = true from decide_eq_true rfl] at h4
    exact h4
  · intro W hb
    refine (states_any c t s st W (h.below hb) (ht.below hb) hs hst hlo hhi hb1).mono ?_
    rintro e W' ⟨a, k, cc, ss, h3, h4, h5⟩
    rw [show statesO c t = statesL c t from if_pos (fits_iff.2 hF)] at h4
    rw [if_pos (fits_iff.2 hF)] at h3
    have hk : k = t.frames.length := by have := h4.len; rw [statesL_len] at this; exact this.symm
    subst hk
    exact ⟨a, cc, ss, h3, h4.sees, h5⟩
  · intro x W hb h1 h2
    refine (states_any c (cutT c t) s x W (h.below hb) h1 hs h2 hlo hhi hbX).mono ?_
    rintro e W' ⟨a, k, cc, ss, h3, h4, h5⟩
    rw [show statesO c (cutT c t) = statesL c (cutT c t) from if_pos hXq] at h4
    rw [if_pos hXq] at h3
    have hk : k = (remS (statesL c t)).length := by have := h4.len; rw [statesL_len, cut_len] at this; exact this.symm
    subst hk
    exact ⟨a, cc, ss, h3, h4.sees, h5⟩
  · intro W hb
    refine (refread_any t st W (ht.below hb) hst).mono ?_
    rintro e W' ⟨y, h3, h4, _, h6⟩
    exact ⟨y, h3, h4.s2, by have := h4.s2.n_eq; rw [hnl] at this; exact this.symm, h6⟩
end Go.Proofs.Ytgpkghlhlabjcaa
