/- A drawn region of enc.Relaxed: the row and the first switch. -/
import Derived.Test.YtcoehbkjccfhlaaGEncM03
import Derived.Test.YtcoehbkjccfhlaaGEncM01
import Derived.Test.YtcoehbkjccfhlaaGEncM12
import Derived.Test.YtcoehbkjccfhlaaGEncM17
import Derived.Test.YtcoehbkjccfhlaaEnGv
import Derived.Test.YtcoehbkjccfhlaaRows
import Derived.Test.YtcoehbkjccfhlaaGEncM05
import Derived.BigQuiet
import Derived.Deep.AppendLies
import Derived.Deep.CutRange
import Derived.Deep.QuietTactic
import Derived.Deep.RegionHeld3
import Derived.Deep.RegionLaw
import Derived.Deep.RegionWith
import Derived.KernelRfl
import Derived.Laws.EntriesVeiled
import Derived.Laws.Tables
import Derived.Lib.AppendStr
import Derived.Lib.AppendZeros
import Derived.Lib.ConvBytes
import Derived.Lib.Hide
import Derived.Lib.SlBytesRow
import Derived.Lib.SmallJoins
import Derived.Maps.AppendAt
import Derived.OrdersHeld
import Derived.Shelf.Bytes.SlSmallAll
import Derived.WalkKit
import Derived.WalkLawsBesides
import Derived.WalkSpells
import Derived.Test.YtcoehbkjccfhlaaGEncM00
import Derived.Test.YtcoehbkjccfhlaaGEncM02
import Derived.Test.YtcoehbkjccfhlaaGEncM11
/- Models of an unrolling's clauses, on plain lists: with one variable turned it is none any more. -/
namespace Go.Proofs.Ytcoehbkjccfhlaa
open Go Go.RowKit Go.Joins

/-- Does a clause literal hold; does a clause? -/
def litM (M : Nat → Bool) (x : Int) : Bool := (decide (0 < x) && M x.toNat) || (decide (x < 0) && !M (-x).toNat)
def clM (M : Nat → Bool) (l : List Int) : Bool := l.any (litM M)
theorem litM_pos (M : Nat → Bool) {s : Nat} (h : 0 < s) : litM M (s : Int) = M s := by
  have h1 : ¬ ((s : Int) < 0) := by omega
  have h2 : (0 : Int) < (s : Int) := by omega
  unfold litM
  rw [decide_eq_true h2, decide_eq_false h1]
  simp
theorem litM_neg (M : Nat → Bool) {s : Nat} (h : 0 < s) : litM M (-(s : Int)) = !M s := by
  have h1 : -(s : Int) < 0 := by omega
  have h2 : ¬ ((0 : Int) < -(s : Int)) := by omega
  unfold litM
  rw [decide_eq_true h1, decide_eq_false h2]
  simp
theorem litM_not (M : Nat → Bool) {x : Int} (h : x ≠ 0) : litM M (-x) = !litM M x := by
  rcases Int.lt_or_gt_of_ne h with h | h
  · obtain ⟨s, hs⟩ := Int.eq_ofNat_of_zero_le (a := -x) (by omega)
    obtain rfl : x = -(s : Int) := by omega
    rw [Int.neg_neg, litM_pos M (by omega), litM_neg M (by omega), Bool.not_not]
  · obtain ⟨s, rfl⟩ := Int.eq_ofNat_of_zero_le (a := x) (by omega)
    rw [litM_pos M (by omega), litM_neg M (by omega)]
theorem litE_ne (V x f : Nat) : litE V x f ≠ 0 := by
  unfold litE absE spotE
  split <;> split <;> omega
theorem litE_agree {M M' : Nat → Bool} {V x f : Nat} (h1 : M' 1 = M 1) (h : x / 2 ≠ 0 → M' (spotE V (x / 2) f) = M (spotE V (x / 2) f)) : litM M' (litE V x f) = litM M (litE V x f) := by
  have hp : ∀ m : Nat → Bool, litM m (-1) = !m 1 := fun m => litM_neg m (s := 1) (by omega)
  have ha : litM M' (absE V x f) = litM M (absE V x f) := by
    unfold absE
    by_cases e : x / 2 = 0
    · rw [if_pos e, hp, hp, h1]
    · rw [if_neg e, litM_pos _ (by unfold spotE; omega), litM_pos _ (by unfold spotE; omega), h e]
  have hn : absE V x f ≠ 0 := by unfold absE spotE; split <;> omega
  unfold litE
  by_cases e : x % 2 = 1
  · rw [if_pos e, litM_not _ hn, litM_not _ hn, ha]
  · rw [if_neg e, ha]
/-- A gate's three clauses say what it is; a latch's two. -/
theorem gate_iff {M : Nat → Bool} {c : NormC} {f i : Nat} (h : ∀ cl ∈ gateE c f i, clM M cl.2 = true) :
    M (spotE (varsN c) (firstGateE c + i) f) = (litM M (litE (varsN c) (c.gates.getD i (0, 0)).1 f) && litM M (litE (varsN c) (c.gates.getD i (0, 0)).2 f)) := by
  have hs : 0 < spotE (varsN c) (firstGateE c + i) f := by unfold spotE; omega
  simp only [gateE, List.mem_cons, List.not_mem_nil, or_false, forall_eq_or_imp, forall_eq, clM, List.any_cons, List.any_nil, Bool.or_false, litM_pos M hs, litM_neg M hs, litM_not M (litE_ne _ _ _)] at h
  obtain ⟨h1, h2, h3⟩ := h
  generalize M (spotE (varsN c) (firstGateE c + i) f) = g at h1 h2 h3 ⊢
  generalize litM M (litE (varsN c) (c.gates.getD i (0, 0)).1 f) = a at h1 h2 h3 ⊢
  generalize litM M (litE (varsN c) (c.gates.getD i (0, 0)).2 f) = b at h1 h2 h3 ⊢
  revert h1 h2 h3
  cases g <;> cases a <;> cases b <;> decide
theorem next_iff {M : Nat → Bool} {c : NormC} {f i : Nat} (h : ∀ cl ∈ nextE c f i, clM M cl.2 = true) :
    M (spotE (varsN c) (firstLatE c + i) f) = litM M (litE (varsN c) (c.lats.getD i (0, 0)).1 (f - 1)) := by
  have hs : 0 < spotE (varsN c) (firstLatE c + i) f := by unfold spotE; omega
  simp only [nextE, List.mem_cons, List.not_mem_nil, or_false, forall_eq_or_imp, forall_eq, clM, List.any_cons, List.any_nil, Bool.or_false, litM_pos M hs, litM_neg M hs, litM_not M (litE_ne _ _ _)] at h
  obtain ⟨h1, h2⟩ := h
  generalize M (spotE (varsN c) (firstLatE c + i) f) = g at h1 h2 ⊢
  generalize litM M (litE (varsN c) (c.lats.getD i (0, 0)).1 (f - 1)) = a at h1 h2 ⊢
  revert h1 h2
  cases g <;> cases a <;> decide
/-- What is told of a variable, and is no X, settles it. -/
theorem tell_iff {M : Nat → Bool} {V v f val : Nat} (hv : val ≤ 1) (h : ∀ x ∈ tellE V v f val, litM M x = true) : M (spotE V v f) = decide (val = 1) := by
  have hs : 0 < spotE V v f := by unfold spotE; omega
  unfold tellE at h
  by_cases e : val = 0
  · rw [if_pos e] at h
    have h1 := h _ (List.mem_singleton.2 rfl)
    rw [litM_neg M hs] at h1
    subst e
    simpa using h1
  · obtain rfl : val = 1 := by omega
    rw [if_neg e, if_pos rfl] at h
    have h1 := h _ (List.mem_singleton.2 rfl)
    rw [litM_pos M hs] at h1
    simpa using h1
/-- A first value that is fixed is in the clauses. -/
theorem reset_iff {M : Nat → Bool} {c : NormC} {i : Nat} (hr : (c.lats.getD i (0, 0)).2 ≤ 1) (h : ∀ cl ∈ resetE c i, clM M cl.2 = true) : M (spotE (varsN c) (firstLatE c + i) 0) = decide ((c.lats.getD i (0, 0)).2 = 1) := by
  have hs : 0 < spotE (varsN c) (firstLatE c + i) 0 := by unfold spotE; omega
  unfold resetE at h
  by_cases e : (c.lats.getD i (0, 0)).2 = 0
  · rw [if_pos e] at h
    have h1 := h _ (List.mem_singleton.2 rfl)
    simp only [clM, List.any_cons, List.any_nil, Bool.or_false, litM_neg M hs] at h1
    rw [e]
    simpa using h1
  · have e1 : (c.lats.getD i (0, 0)).2 = 1 := by omega
    rw [if_neg e, if_pos e1] at h
    have h1 := h _ (List.mem_singleton.2 rfl)
    simp only [clM, List.any_cons, List.any_nil, Bool.or_false, litM_pos M hs] at h1
    rw [e1]
    simpa using h1
/-- With one variable turned it is no model of the clauses and of what is told. -/
theorem flip_bad {c : NormC} {t : TraceC} {nf k : Nat} {M M' : Nat → Bool} (hM : MayC c) (hnf : t.frames.length = nf) (hk : 1 ≤ k) (hk2 : k ≤ 1 + nf * varsN c)
    (hi : ∀ i, i < c.lats.length → (t.init.getD i 0).toNat ≤ 1) (hf : ∀ f, f < nf → ∀ i, i < c.ins.toNat → ((t.frames.getD f []).getD i 0).toNat ≤ 1)
    (he : ∀ j, j ≠ k → M' j = M j) (hn : M' k = !M k)
    (h1 : ∀ cl ∈ allE c nf, clM M cl.2 = true) (h1' : ∀ cl ∈ allE c nf, clM M' cl.2 = true) (h2 : ∀ x ∈ givE c t, litM M x = true) (h2' : ∀ x ∈ givE c t, litM M' x = true) : False := by
  have hne : M' k ≠ M k := by rw [hn]; cases M k <;> decide
  by_cases hk1 : k = 1
  · subst hk1
    have hc : ∀ m : Nat → Bool, (∀ cl ∈ allE c nf, clM m cl.2 = true) → m 1 = true := fun m h => by
      have h3 := h (-1, [1]) (List.mem_cons_self ..)
      simpa [clM, litM_pos m (s := 1) (by omega), litM] using h3
    exact hne (by rw [hc M h1, hc M' h1'])
  · obtain ⟨V, hV⟩ : ∃ V, V = varsN c := ⟨_, rfl⟩
    have hV0 : 0 < V := by
      rcases Nat.eq_zero_or_pos V with e | e
      · rw [← hV, e] at hk2; omega
      · exact e
    rw [← hV] at hk2
    obtain ⟨f, hfe⟩ : ∃ f, f = (k - 2) / V := ⟨_, rfl⟩
    obtain ⟨u, hu⟩ : ∃ u, u = (k - 2) % V := ⟨_, rfl⟩
    have hdm := Nat.div_add_mod (k - 2) V
    have hul : u < V := by rw [hu]; exact Nat.mod_lt _ hV0
    have hfl : f < nf := by rw [hfe]; exact Nat.div_lt_of_lt_mul (by rw [Nat.mul_comm]; omega)
    rw [← hfe, ← hu, Nat.mul_comm] at hdm
    have hks : k = spotE V (1 + u) f := by unfold spotE; omega
    clear hfe hu hdm
    have hone : M' 1 = M 1 := he 1 (fun e => hk1 e.symm)
    have hall : ∀ {g : Nat} {cl : TCl}, g < nf → cl ∈ frameE c g → cl ∈ allE c nf := fun hg hc => List.mem_cons_of_mem _ (upE_mem.2 ⟨_, hg, hc⟩)
    have hvars : V = c.ins.toNat + c.lats.length + c.gates.length := hV
    rw [hks] at hne
    by_cases ci : u < c.ins.toNat
    · have hmem : ∀ x ∈ tellE V (1 + u) f ((t.frames.getD f []).getD u 0).toNat, x ∈ givE c t := fun x hx => List.mem_append.2 (.inr (upE_mem.2 ⟨f, by omega, upE_mem.2 ⟨u, ci, by unfold inG; rw [← hV]; exact hx⟩⟩))
      exact hne ((tell_iff (hf f hfl u ci) (fun x hx => h2' x (hmem x hx))).trans (tell_iff (hf f hfl u ci) (fun x hx => h2 x (hmem x hx))).symm)
    · by_cases cl : u < c.ins.toNat + c.lats.length
      · obtain ⟨i, hiu⟩ : ∃ i, u = c.ins.toNat + i := ⟨u - c.ins.toNat, by omega⟩
        have hil : i < c.lats.length := by omega
        have hsp : 1 + u = firstLatE c + i := by unfold firstLatE; omega
        have hmay := hM.lats (c.lats.getD i (0, 0)) (getD_mem hil)
        rw [hsp, hV] at hne
        rcases Nat.eq_zero_or_pos f with e0 | e0
        · subst e0
          have hin : ∀ x ∈ resetE c i, x ∈ frameE c 0 := fun x hx => List.mem_append.2 (.inl (by unfold latsE; rw [if_pos rfl]; exact upE_mem.2 ⟨i, hil, hx⟩))
          by_cases er : (c.lats.getD i (0, 0)).2 = 2
          · have hmem : ∀ x ∈ tellE (varsN c) (firstLatE c + i) 0 (t.init.getD i 0).toNat, x ∈ givE c t := fun x hx => List.mem_append.2 (.inl (upE_mem.2 ⟨i, hil, by unfold latG; rw [if_pos er]; exact hx⟩))
            exact hne ((tell_iff (hi i hil) (fun x hx => h2' x (hmem x hx))).trans (tell_iff (hi i hil) (fun x hx => h2 x (hmem x hx))).symm)
          · have hr : (c.lats.getD i (0, 0)).2 ≤ 1 := by omega
            exact hne ((reset_iff hr (fun x hx => h1' x (hall hfl (hin x hx)))).trans (reset_iff hr (fun x hx => h1 x (hall hfl (hin x hx)))).symm)
        · have hin : ∀ x ∈ nextE c f i, x ∈ frameE c f := fun x hx => List.mem_append.2 (.inl (by unfold latsE; rw [if_neg (by omega)]; exact upE_mem.2 ⟨i, hil, hx⟩))
          have ha : litM M' (litE (varsN c) (c.lats.getD i (0, 0)).1 (f - 1)) = litM M (litE (varsN c) (c.lats.getD i (0, 0)).1 (f - 1)) := litE_agree hone (fun _ => he _ (by
            obtain ⟨g, rfl⟩ : ∃ g, f = g + 1 := ⟨f - 1, by omega⟩
            rw [hks, ← hV]
            unfold spotE
            rw [Nat.add_sub_cancel, Nat.succ_mul]
            have := hmay.1
            omega))
          exact hne ((next_iff (fun x hx => h1' x (hall hfl (hin x hx)))).trans (ha.trans (next_iff (fun x hx => h1 x (hall hfl (hin x hx)))).symm))
      · obtain ⟨i, hiu⟩ : ∃ i, u = c.ins.toNat + c.lats.length + i := ⟨u - c.ins.toNat - c.lats.length, by omega⟩
        have hil : i < c.gates.length := by omega
        have hsp : 1 + u = firstGateE c + i := by unfold firstGateE; omega
        have hmay := hM.gates i hil
        have hin : ∀ x ∈ gateE c f i, x ∈ frameE c f := fun x hx => List.mem_append.2 (.inr (upE_mem.2 ⟨i, hil, hx⟩))
        have hag : ∀ x, x < 2 * (1 + c.ins.toNat + c.lats.length + i) → litM M' (litE (varsN c) x f) = litM M (litE (varsN c) x f) := fun x hx => litE_agree hone (fun _ => he _ (by rw [hks, ← hV]; unfold spotE; omega))
        rw [hsp, hV] at hne
        exact hne ((gate_iff (fun x hx => h1' x (hall hfl (hin x hx)))).trans (by rw [hag _ hmay.2, hag _ (by omega)]; exact (gate_iff (fun x hx => h1 x (hall hfl (hin x hx)))).symm))
end Go.Proofs.Ytcoehbkjccfhlaa
namespace Go.Proofs.Ytcoehbkjccfhlaa
open Go Go.RowKit Go.Joins

noncomputable def codeRx4 : Code := ((Try.f14.body.bind (findRegion 4)).getD .skip)
set_option maxRecDepth 100000 in
set_option maxHeartbeats 6400000 in
theorem reg_Rx4 (w X0 : World) (U Lb Fb m r first : Nat) (x : Int) (V nf : Nat) (a1 a2 a3 a4 a5 : Option Addr) (n1 c1 n2 c2 n3 c3 n4 c4 n5 c5 : Nat)
    (HU : Hid (X0.heap[U]? = some (.cells #[.int .i64 x, .slice a1 n1 c1, .slice a2 n2 c2, .slice a3 n3 c3, .slice a4 n4 c4, .slice a5 n5 c5, .int .i64 (V : Int), .int .i64 (nf : Int)] 67 (0, 0)))) (HL : Hid (X0.heap[Lb]? = some (.cells #[.slice none 0 0] 39 (0, 0)))) (HF : Hid (X0.heap[Fb]? = some (.cells #[.int .i64 0] 3 (0, 0))))
    (HB : Hid (Below w.heap.size w X0)) (hL : w.heap.size ≤ Lb) (hF : w.heap.size ≤ Fb) (hm : m ≤ 1048576) (hr : r ≤ 100000000) (hf : first = r + 1)
    (HMN : Hid (∀ W, Below X0.heap.size X0 W → Calls Try.prog 38 #[.agg #[.int .i64 x, .slice a1 n1 c1, .slice a2 n2 c2, .slice a3 n3 c3, .slice a4 n4 c4, .slice a5 n5 c5, .int .i64 (V : Int), .int .i64 (nf : Int)]] W fun e w' => e = .returned (.int .i64 (m : Int)) ∧ Below W.heap.size W w'))
    (HLA : Hid (∀ W, Calls Try.prog 31 #[.agg #[.int .i64 x, .slice a1 n1 c1, .slice a2 n2 c2, .slice a3 n3 c3, .slice a4 n4 c4, .slice a5 n5 c5, .int .i64 (V : Int), .int .i64 (nf : Int)]] W fun e w' => e = .returned (.int .i64 (r : Int)) ∧ Below W.heap.size W w'))
    (QQ : Exit → Act → World → Prop)
    {v0 v1 v2 v3 v6 v8 v9 v10 v11 v12 v13 v14 v15 v16 v17 v18 v19 v20 v21 v22 v23 v24 v25 v26 v27 : Value}
    (hK : ∀ (g : Nat) (W : World) (u17 u18 u19 u20 u21 u22 : Value), W.heap[g]? = some (.cells (zeros (.slice none 0 0) m) 45 (0, 0)) → w.heap.size ≤ g → W.heap[Lb]? = some (.cells #[.slice (some ⟨g, 0, none⟩) 0 m] 39 (0, 0)) → W.heap[Fb]? = some (.cells #[.int .i64 (first : Int)] 3 (0, 0)) → W.heap[U]? = some (.cells #[.int .i64 x, .slice a1 n1 c1, .slice a2 n2 c2, .slice a3 n3 c3, .slice a4 n4 c4, .slice a5 n5 c5, .int .i64 (V : Int), .int .i64 (nf : Int)] 67 (0, 0)) → Below w.heap.size w W →
      QQ .normal ⟨#[v0, v1, v2, v3, .pointer (some ⟨Lb, 0, .none⟩), .pointer (some ⟨Fb, 0, .none⟩), v6, .pointer (some ⟨U, 0, .none⟩), v8, v9, v10, v11, v12, v13, v14, v15, v16, u17, u18, u19, u20, u21, u22, v23, v24, v25, v26, v27], []⟩ W) :
    Code.wp Try.prog codeRx4 QQ ⟨#[v0, v1, v2, v3, .pointer (some ⟨Lb, 0, .none⟩), .pointer (some ⟨Fb, 0, .none⟩), v6, .pointer (some ⟨U, 0, .none⟩), v8, v9, v10, v11, v12, v13, v14, v15, v16, v17, v18, v19, v20, v21, v22, v23, v24, v25, v26, v27], []⟩ X0 := by
  have HKK := Lib.hid hK
  have hLU : Lb ≠ U := by intro e; subst e; have := HU.out; rw [HL.out] at this; cases this
  have hFU : Fb ≠ U := by intro e; subst e; have := HU.out; rw [HF.out] at this; cases this
  have hLF : Lb ≠ Fb := by intro e; subst e; have := HF.out; rw [HL.out] at this; cases this
  obtain ⟨i0, hi, hz0, hz1, hz2⟩ := info_parts info_zs
  have mk := fun W => run_make_cap (P := Try.prog) Try.underlying39 hi hz0 hz1 hz2 rfl m (m : Int) rfl (by omega) (by omega) W
  have W5 : IntKind.i64.wrap ((r : Int) + 1) = (first : Int) := by rw [show (r : Int) + 1 = (first : Int) by omega]; exact IntWalk.i64_in _ (by omega)
  have HLU := Lib.hid hLU
  have HFU := Lib.hid hFU
  have HLF := Lib.hid hLF
  have HL0 := Lib.hid hL
  have HF0 := Lib.hid hF
  clear hK hLU hFU hLF hL hF hm hr hf
  have p0 : X0.cell? ⟨U, 0, none⟩ = some (.int .i64 x) := cell_of_block HU.out 0
  have p1 : X0.cell? ⟨U, 1, none⟩ = some (.slice a1 n1 c1) := cell_of_block HU.out 1
  have p2 : X0.cell? ⟨U, 2, none⟩ = some (.slice a2 n2 c2) := cell_of_block HU.out 2
  have p3 : X0.cell? ⟨U, 3, none⟩ = some (.slice a3 n3 c3) := cell_of_block HU.out 3
  have p4 : X0.cell? ⟨U, 4, none⟩ = some (.slice a4 n4 c4) := cell_of_block HU.out 4
  have p5 : X0.cell? ⟨U, 5, none⟩ = some (.slice a5 n5 c5) := cell_of_block HU.out 5
  have p6 : X0.cell? ⟨U, 6, none⟩ = some (.int .i64 (V : Int)) := cell_of_block HU.out 6
  have p7 : X0.cell? ⟨U, 7, none⟩ = some (.int .i64 (nf : Int)) := cell_of_block HU.out 7
  conv => arg 2; whnf
  refine wp_region_noPanic ?_
  refine wp_region_held (S := fun w' => w'.cell? ⟨U, 0, none⟩ = some (.int .i64 x) ∧ w'.cell? ⟨U, 1, none⟩ = some (.slice a1 n1 c1) ∧ w'.cell? ⟨U, 2, none⟩ = some (.slice a2 n2 c2) ∧ w'.cell? ⟨U, 3, none⟩ = some (.slice a3 n3 c3) ∧ w'.cell? ⟨U, 4, none⟩ = some (.slice a4 n4 c4) ∧ w'.cell? ⟨U, 5, none⟩ = some (.slice a5 n5 c5) ∧ w'.cell? ⟨U, 6, none⟩ = some (.int .i64 (V : Int)) ∧ w'.cell? ⟨U, 7, none⟩ = some (.int .i64 (nf : Int))) (by kernel_rfl) ?_
  generalize hYY : ({ X0 with drawn := X0.drawn + 1 } : World) = Y0
  have HY0 : Hid (Below X0.heap.size X0 Y0) := by subst hYY; exact (Below.refl _ _).drew
  have HS0 : Hid (Y0.cell? ⟨U, 0, none⟩ = some (.int .i64 x) ∧ Y0.cell? ⟨U, 1, none⟩ = some (.slice a1 n1 c1) ∧ Y0.cell? ⟨U, 2, none⟩ = some (.slice a2 n2 c2) ∧ Y0.cell? ⟨U, 3, none⟩ = some (.slice a3 n3 c3) ∧ Y0.cell? ⟨U, 4, none⟩ = some (.slice a4 n4 c4) ∧ Y0.cell? ⟨U, 5, none⟩ = some (.slice a5 n5 c5) ∧ Y0.cell? ⟨U, 6, none⟩ = some (.int .i64 (V : Int)) ∧ Y0.cell? ⟨U, 7, none⟩ = some (.int .i64 (nf : Int))) := ⟨cell_below p0 HY0.out, cell_below p1 HY0.out, cell_below p2 HY0.out, cell_below p3 HY0.out, cell_below p4 HY0.out, cell_below p5 HY0.out, cell_below p6 HY0.out, cell_below p7 HY0.out⟩
  clear hYY
  clear p0 p1 p2 p3 p4 p5 p6 p7
  refine wpAnyH_take (i := 0) (v := ?_) (by simp only [List.getElem?_toArray, List.getElem?_cons_zero]; rfl) (by kernel_rfl) (by kernel_rfl) (by kernel_rfl) (fun _ _ _ h => h) (Or.inl ⟨by rfl, ?_⟩) HS0.out ?_
  rotate_left
  · intro w hSw
    (try dsimp only at hSw)
    obtain ⟨q0_, q1_, q2_, q3_, q4_, q5_, q6_, q7_⟩ := hSw
    go_simp
    try with_reducible rfl
  try simp only [Act.put, List.setIfInBounds_toArray, List.set_cons_zero, List.set_cons_succ]
  refine wpAnyH_take (i := 3) (v := ?_) (by simp only [List.getElem?_toArray, List.getElem?_cons_zero, List.getElem?_cons_succ]; rfl) (by kernel_rfl) (by kernel_rfl) (by kernel_rfl) (fun _ _ _ h => h) (Or.inl ⟨by rfl, ?_⟩) HS0.out ?_
  rotate_left
  · intro w hSw
    (try dsimp only at hSw)
    obtain ⟨q0_, q1_, q2_, q3_, q4_, q5_, q6_, q7_⟩ := hSw
    go_simp
    try with_reducible rfl
  try simp only [Act.put, List.setIfInBounds_toArray, List.set_cons_zero, List.set_cons_succ]
  refine wpAnyH_ready (rs := [1]) (by kernel_rfl) (by simp) ?_
  refine AllReadyH.cons (by simp only [List.getElem?_toArray, List.getElem?_cons_zero, List.getElem?_cons_succ]; rfl) (fun K hK => ?_) AllReadyH.nil
  go_simp
  refine (HMN.out _ HY0.out).mono ?_
  rintro e s1 ⟨rfl, b1⟩
  have HY1 := Lib.hid (ext_trans HY0.out b1)
  have HS1 : Hid (s1.cell? ⟨U, 0, none⟩ = some (.int .i64 x) ∧ s1.cell? ⟨U, 1, none⟩ = some (.slice a1 n1 c1) ∧ s1.cell? ⟨U, 2, none⟩ = some (.slice a2 n2 c2) ∧ s1.cell? ⟨U, 3, none⟩ = some (.slice a3 n3 c3) ∧ s1.cell? ⟨U, 4, none⟩ = some (.slice a4 n4 c4) ∧ s1.cell? ⟨U, 5, none⟩ = some (.slice a5 n5 c5) ∧ s1.cell? ⟨U, 6, none⟩ = some (.int .i64 (V : Int)) ∧ s1.cell? ⟨U, 7, none⟩ = some (.int .i64 (nf : Int))) := ⟨cell_below HS0.out.1 b1, cell_below HS0.out.2.1 b1, cell_below HS0.out.2.2.1 b1, cell_below HS0.out.2.2.2.1 b1, cell_below HS0.out.2.2.2.2.1 b1, cell_below HS0.out.2.2.2.2.2.1 b1, cell_below HS0.out.2.2.2.2.2.2.1 b1, cell_below HS0.out.2.2.2.2.2.2.2 b1⟩
  refine hK.out _ _ HS1.out (fun _ => ?_)
  clear hK K
  try simp only [Act.put, List.setIfInBounds_toArray, List.set_cons_zero, List.set_cons_succ]
  clear b1
  refine wpAnyH_ready (rs := [2, 4]) (by kernel_rfl) (by simp) ?_
  refine AllReadyH.cons (by simp only [List.getElem?_toArray, List.getElem?_cons_zero, List.getElem?_cons_succ]; rfl) (fun K hK => ?_) (AllReadyH.cons (by simp only [List.getElem?_toArray, List.getElem?_cons_zero, List.getElem?_cons_succ]; rfl) (fun K hK => ?_) AllReadyH.nil)
  · go_simp
    generalize hYV : World.alloc s1 _ = M1
    have HY_M1 : Hid (Below X0.heap.size X0 M1) := by subst hYV; exact ext_trans HY1.out (ext_alloc _ _)
    have HG_M1 : Hid (M1.heap[s1.heap.size]? = some (.cells (zeros (.slice none 0 0) m) 45 (0, 0))) := by subst hYV; exact heap_new _ _ _ rfl
    have HB_M1 : Hid (Below s1.heap.size s1 M1) := by subst hYV; exact ext_alloc _ _
    clear hYV
    have HS_M1 : Hid (M1.cell? ⟨U, 0, none⟩ = some (.int .i64 x) ∧ M1.cell? ⟨U, 1, none⟩ = some (.slice a1 n1 c1) ∧ M1.cell? ⟨U, 2, none⟩ = some (.slice a2 n2 c2) ∧ M1.cell? ⟨U, 3, none⟩ = some (.slice a3 n3 c3) ∧ M1.cell? ⟨U, 4, none⟩ = some (.slice a4 n4 c4) ∧ M1.cell? ⟨U, 5, none⟩ = some (.slice a5 n5 c5) ∧ M1.cell? ⟨U, 6, none⟩ = some (.int .i64 (V : Int)) ∧ M1.cell? ⟨U, 7, none⟩ = some (.int .i64 (nf : Int))) := ⟨cell_below HS1.out.1 HB_M1.out, cell_below HS1.out.2.1 HB_M1.out, cell_below HS1.out.2.2.1 HB_M1.out, cell_below HS1.out.2.2.2.1 HB_M1.out, cell_below HS1.out.2.2.2.2.1 HB_M1.out, cell_below HS1.out.2.2.2.2.2.1 HB_M1.out, cell_below HS1.out.2.2.2.2.2.2.1 HB_M1.out, cell_below HS1.out.2.2.2.2.2.2.2 HB_M1.out⟩
    have HGW : Hid (w.heap.size ≤ s1.heap.size) := Nat.le_trans HB.out.size HY1.out.size
    refine hK.out _ _ HS_M1.out (fun _ => ?_)
    clear hK K
    try simp only [Act.put, List.setIfInBounds_toArray, List.set_cons_zero, List.set_cons_succ]
    refine wpAnyH_ready (rs := [4]) (by kernel_rfl) (by simp) ?_
    refine AllReadyH.cons (by simp only [List.getElem?_toArray, List.getElem?_cons_zero, List.getElem?_cons_succ]; rfl) (fun K hK => ?_) AllReadyH.nil
    go_simp
    refine (HLA.out _).mono ?_
    rintro e s2 ⟨rfl, b1⟩
    have HY2 := Lib.hid (ext_trans HY_M1.out b1)
    have HG2 := Lib.hid (heap_below HG_M1.out b1)
    have HS2 : Hid (s2.cell? ⟨U, 0, none⟩ = some (.int .i64 x) ∧ s2.cell? ⟨U, 1, none⟩ = some (.slice a1 n1 c1) ∧ s2.cell? ⟨U, 2, none⟩ = some (.slice a2 n2 c2) ∧ s2.cell? ⟨U, 3, none⟩ = some (.slice a3 n3 c3) ∧ s2.cell? ⟨U, 4, none⟩ = some (.slice a4 n4 c4) ∧ s2.cell? ⟨U, 5, none⟩ = some (.slice a5 n5 c5) ∧ s2.cell? ⟨U, 6, none⟩ = some (.int .i64 (V : Int)) ∧ s2.cell? ⟨U, 7, none⟩ = some (.int .i64 (nf : Int))) := ⟨cell_below HS_M1.out.1 b1, cell_below HS_M1.out.2.1 b1, cell_below HS_M1.out.2.2.1 b1, cell_below HS_M1.out.2.2.2.1 b1, cell_below HS_M1.out.2.2.2.2.1 b1, cell_below HS_M1.out.2.2.2.2.2.1 b1, cell_below HS_M1.out.2.2.2.2.2.2.1 b1, cell_below HS_M1.out.2.2.2.2.2.2.2 b1⟩
    refine hK.out _ _ HS2.out (fun _ => ?_)
    clear hK K
    try simp only [Act.put, List.setIfInBounds_toArray, List.set_cons_zero, List.set_cons_succ]
    clear b1
    refine wpAnyH_take (i := 5) (v := ?_) (by simp only [List.getElem?_toArray, List.getElem?_cons_zero, List.getElem?_cons_succ]; rfl) (by kernel_rfl) (by kernel_rfl) (by kernel_rfl) (fun _ _ _ h => h) (Or.inl ⟨by rfl, ?_⟩) HS2.out ?_
    rotate_left
    · intro w hSw
      (try dsimp only at hSw)
      obtain ⟨q0_, q1_, q2_, q3_, q4_, q5_, q6_, q7_⟩ := hSw
      go_simp
      try with_reducible rfl
    try simp only [Act.put, List.setIfInBounds_toArray, List.set_cons_zero, List.set_cons_succ]
    have hl := heap_below HL.out HY2.out
    have hfb := heap_below HF.out HY2.out
    have d0 : s2.cell? ⟨Lb, 0, none⟩ = some (.slice none 0 0) := cell_of_block hl 0
    have y0 := unfrozen_of_block hl 0
    refine wpAnyH_ready (rs := [6]) (by kernel_rfl) (by simp) ?_
    refine AllReadyH.cons (by simp only [List.getElem?_toArray, List.getElem?_cons_zero, List.getElem?_cons_succ]; rfl) (fun K hK => ?_) AllReadyH.nil
    go_simp
    generalize hT1 : World.setCell s2 _ _ = T1
    have kT : ∀ D, D ≠ Lb → T1.heap[D]? = s2.heap[D]? := by subst hT1; intro D hD; exact Below.heap_setCell s2 ⟨Lb, 0, .none⟩ _ D hD
    have hl1 : T1.heap[Lb]? = some (.cells #[.slice (some ⟨s1.heap.size, 0, none⟩) 0 m] 39 (0, 0)) := by subst hT1; simpa using block_setCell hl (i := 0) (.slice (some ⟨s1.heap.size, 0, none⟩) 0 m)
    have hb1 : Below w.heap.size w T1 := by subst hT1; exact (ext_trans HB.out HY2.out).setCell (p := ⟨Lb, 0, .none⟩) HL0.out _
    clear hT1 d0 y0
    have HT1 := Lib.hid kT
    have HL1 := Lib.hid hl1
    have HB1 := Lib.hid hb1
    have hfb1 : T1.heap[Fb]? = some (.cells #[.int .i64 0] 3 (0, 0)) := (HT1.out Fb (Ne.symm HLF.out)).trans hfb
    have HU1 : Hid (T1.heap[U]? = some (.cells #[.int .i64 x, .slice a1 n1 c1, .slice a2 n2 c2, .slice a3 n3 c3, .slice a4 n4 c4, .slice a5 n5 c5, .int .i64 (V : Int), .int .i64 (nf : Int)] 67 (0, 0))) := (HT1.out U (Ne.symm HLU.out)).trans (heap_below HU.out HY2.out)
    have HST : Hid (T1.cell? ⟨U, 0, none⟩ = some (.int .i64 x) ∧ T1.cell? ⟨U, 1, none⟩ = some (.slice a1 n1 c1) ∧ T1.cell? ⟨U, 2, none⟩ = some (.slice a2 n2 c2) ∧ T1.cell? ⟨U, 3, none⟩ = some (.slice a3 n3 c3) ∧ T1.cell? ⟨U, 4, none⟩ = some (.slice a4 n4 c4) ∧ T1.cell? ⟨U, 5, none⟩ = some (.slice a5 n5 c5) ∧ T1.cell? ⟨U, 6, none⟩ = some (.int .i64 (V : Int)) ∧ T1.cell? ⟨U, 7, none⟩ = some (.int .i64 (nf : Int))) := ⟨cell_of_block HU1.out 0, cell_of_block HU1.out 1, cell_of_block HU1.out 2, cell_of_block HU1.out 3, cell_of_block HU1.out 4, cell_of_block HU1.out 5, cell_of_block HU1.out 6, cell_of_block HU1.out 7⟩
    clear kT hl1 hb1 hl
    refine hK.out _ _ HST.out (fun _ => ?_)
    clear hK K
    try simp only [Act.put, List.setIfInBounds_toArray, List.set_cons_zero, List.set_cons_succ]
    have d0 : T1.cell? ⟨Fb, 0, none⟩ = some (.int .i64 0) := cell_of_block hfb1 0
    have y0 := unfrozen_of_block hfb1 0
    refine wpAnyH_ready (rs := [7]) (by kernel_rfl) (by simp) ?_
    refine AllReadyH.cons (by simp only [List.getElem?_toArray, List.getElem?_cons_zero, List.getElem?_cons_succ]; rfl) (fun K hK => ?_) AllReadyH.nil
    go_simp
    generalize hT2 : World.setCell T1 _ _ = T2
    have kT : ∀ D, D ≠ Fb → T2.heap[D]? = T1.heap[D]? := by subst hT2; intro D hD; exact Below.heap_setCell T1 ⟨Fb, 0, .none⟩ _ D hD
    have hf2 : T2.heap[Fb]? = some (.cells #[.int .i64 (first : Int)] 3 (0, 0)) := by subst hT2; simpa using block_setCell hfb1 (i := 0) (.int .i64 (first : Int))
    have hb2 : Below w.heap.size w T2 := by subst hT2; exact HB1.out.setCell (p := ⟨Fb, 0, .none⟩) HF0.out _
    clear hT2 d0 y0 hfb hfb1
    have HT2 := Lib.hid kT
    have HF2 := Lib.hid hf2
    have HB2 := Lib.hid hb2
    clear kT hf2 hb2
    have HU2 : Hid (T2.heap[U]? = some (.cells #[.int .i64 x, .slice a1 n1 c1, .slice a2 n2 c2, .slice a3 n3 c3, .slice a4 n4 c4, .slice a5 n5 c5, .int .i64 (V : Int), .int .i64 (nf : Int)] 67 (0, 0))) := (HT2.out U (Ne.symm HFU.out)).trans HU1.out
    have HST2 : Hid (T2.cell? ⟨U, 0, none⟩ = some (.int .i64 x) ∧ T2.cell? ⟨U, 1, none⟩ = some (.slice a1 n1 c1) ∧ T2.cell? ⟨U, 2, none⟩ = some (.slice a2 n2 c2) ∧ T2.cell? ⟨U, 3, none⟩ = some (.slice a3 n3 c3) ∧ T2.cell? ⟨U, 4, none⟩ = some (.slice a4 n4 c4) ∧ T2.cell? ⟨U, 5, none⟩ = some (.slice a5 n5 c5) ∧ T2.cell? ⟨U, 6, none⟩ = some (.int .i64 (V : Int)) ∧ T2.cell? ⟨U, 7, none⟩ = some (.int .i64 (nf : Int))) := ⟨cell_of_block HU2.out 0, cell_of_block HU2.out 1, cell_of_block HU2.out 2, cell_of_block HU2.out 3, cell_of_block HU2.out 4, cell_of_block HU2.out 5, cell_of_block HU2.out 6, cell_of_block HU2.out 7⟩
    refine hK.out _ _ HST2.out (fun _ => ?_)
    clear hK K
    try simp only [Act.put, List.setIfInBounds_toArray, List.set_cons_zero, List.set_cons_succ]
    refine wpAnyH_done (by kernel_rfl) ?_ _
    refine NoPanic.normal ?_
    have hgg := HG2.out
    have hgL : s1.heap.size ≠ Lb := by intro e; rw [e, heap_below HL.out HY2.out] at hgg; injection hgg with h1; injection h1 with _ h2; exact absurd h2 (by decide)
    have hgF : s1.heap.size ≠ Fb := by intro e; rw [e, heap_below HF.out HY2.out] at hgg; injection hgg with h1; injection h1 with _ h2; exact absurd h2 (by decide)
    exact HKK.out s1.heap.size T2 _ _ _ _ _ _ ((HT2.out _ hgF).trans ((HT1.out _ hgL).trans hgg)) HGW.out ((HT2.out _ HLF.out).trans HL1.out) HF2.out HU2.out HB2.out
  · go_simp
    refine (HLA.out _).mono ?_
    rintro e s2 ⟨rfl, b1⟩
    have HY2 := Lib.hid (ext_trans HY1.out b1)
    have HS2 : Hid (s2.cell? ⟨U, 0, none⟩ = some (.int .i64 x) ∧ s2.cell? ⟨U, 1, none⟩ = some (.slice a1 n1 c1) ∧ s2.cell? ⟨U, 2, none⟩ = some (.slice a2 n2 c2) ∧ s2.cell? ⟨U, 3, none⟩ = some (.slice a3 n3 c3) ∧ s2.cell? ⟨U, 4, none⟩ = some (.slice a4 n4 c4) ∧ s2.cell? ⟨U, 5, none⟩ = some (.slice a5 n5 c5) ∧ s2.cell? ⟨U, 6, none⟩ = some (.int .i64 (V : Int)) ∧ s2.cell? ⟨U, 7, none⟩ = some (.int .i64 (nf : Int))) := ⟨cell_below HS1.out.1 b1, cell_below HS1.out.2.1 b1, cell_below HS1.out.2.2.1 b1, cell_below HS1.out.2.2.2.1 b1, cell_below HS1.out.2.2.2.2.1 b1, cell_below HS1.out.2.2.2.2.2.1 b1, cell_below HS1.out.2.2.2.2.2.2.1 b1, cell_below HS1.out.2.2.2.2.2.2.2 b1⟩
    refine hK.out _ _ HS2.out (fun _ => ?_)
    clear hK K
    try simp only [Act.put, List.setIfInBounds_toArray, List.set_cons_zero, List.set_cons_succ]
    clear b1
    refine wpAnyH_take (i := 5) (v := ?_) (by simp only [List.getElem?_toArray, List.getElem?_cons_zero, List.getElem?_cons_succ]; rfl) (by kernel_rfl) (by kernel_rfl) (by kernel_rfl) (fun _ _ _ h => h) (Or.inl ⟨by rfl, ?_⟩) HS2.out ?_
    rotate_left
    · intro w hSw
      (try dsimp only at hSw)
      obtain ⟨q0_, q1_, q2_, q3_, q4_, q5_, q6_, q7_⟩ := hSw
      go_simp
      try with_reducible rfl
    try simp only [Act.put, List.setIfInBounds_toArray, List.set_cons_zero, List.set_cons_succ]
    refine wpAnyH_ready (rs := [2]) (by kernel_rfl) (by simp) ?_
    refine AllReadyH.cons (by simp only [List.getElem?_toArray, List.getElem?_cons_zero, List.getElem?_cons_succ]; rfl) (fun K hK => ?_) AllReadyH.nil
    go_simp
    generalize hYV : World.alloc s2 _ = M2
    have HY_M2 : Hid (Below X0.heap.size X0 M2) := by subst hYV; exact ext_trans HY2.out (ext_alloc _ _)
    have HG_M2 : Hid (M2.heap[s2.heap.size]? = some (.cells (zeros (.slice none 0 0) m) 45 (0, 0))) := by subst hYV; exact heap_new _ _ _ rfl
    have HB_M2 : Hid (Below s2.heap.size s2 M2) := by subst hYV; exact ext_alloc _ _
    clear hYV
    have HS_M2 : Hid (M2.cell? ⟨U, 0, none⟩ = some (.int .i64 x) ∧ M2.cell? ⟨U, 1, none⟩ = some (.slice a1 n1 c1) ∧ M2.cell? ⟨U, 2, none⟩ = some (.slice a2 n2 c2) ∧ M2.cell? ⟨U, 3, none⟩ = some (.slice a3 n3 c3) ∧ M2.cell? ⟨U, 4, none⟩ = some (.slice a4 n4 c4) ∧ M2.cell? ⟨U, 5, none⟩ = some (.slice a5 n5 c5) ∧ M2.cell? ⟨U, 6, none⟩ = some (.int .i64 (V : Int)) ∧ M2.cell? ⟨U, 7, none⟩ = some (.int .i64 (nf : Int))) := ⟨cell_below HS2.out.1 HB_M2.out, cell_below HS2.out.2.1 HB_M2.out, cell_below HS2.out.2.2.1 HB_M2.out, cell_below HS2.out.2.2.2.1 HB_M2.out, cell_below HS2.out.2.2.2.2.1 HB_M2.out, cell_below HS2.out.2.2.2.2.2.1 HB_M2.out, cell_below HS2.out.2.2.2.2.2.2.1 HB_M2.out, cell_below HS2.out.2.2.2.2.2.2.2 HB_M2.out⟩
    have HGW : Hid (w.heap.size ≤ s2.heap.size) := Nat.le_trans HB.out.size HY2.out.size
    refine hK.out _ _ HS_M2.out (fun _ => ?_)
    clear hK K
    try simp only [Act.put, List.setIfInBounds_toArray, List.set_cons_zero, List.set_cons_succ]
    have hl := heap_below HL.out HY_M2.out
    have hfb := heap_below HF.out HY_M2.out
    have d0 : M2.cell? ⟨Lb, 0, none⟩ = some (.slice none 0 0) := cell_of_block hl 0
    have y0 := unfrozen_of_block hl 0
    refine wpAnyH_ready (rs := [6]) (by kernel_rfl) (by simp) ?_
    refine AllReadyH.cons (by simp only [List.getElem?_toArray, List.getElem?_cons_zero, List.getElem?_cons_succ]; rfl) (fun K hK => ?_) AllReadyH.nil
    go_simp
    generalize hT1 : World.setCell M2 _ _ = T1
    have kT : ∀ D, D ≠ Lb → T1.heap[D]? = M2.heap[D]? := by subst hT1; intro D hD; exact Below.heap_setCell M2 ⟨Lb, 0, .none⟩ _ D hD
    have hl1 : T1.heap[Lb]? = some (.cells #[.slice (some ⟨s2.heap.size, 0, none⟩) 0 m] 39 (0, 0)) := by subst hT1; simpa using block_setCell hl (i := 0) (.slice (some ⟨s2.heap.size, 0, none⟩) 0 m)
    have hb1 : Below w.heap.size w T1 := by subst hT1; exact (ext_trans HB.out HY_M2.out).setCell (p := ⟨Lb, 0, .none⟩) HL0.out _
    clear hT1 d0 y0
    have HT1 := Lib.hid kT
    have HL1 := Lib.hid hl1
    have HB1 := Lib.hid hb1
    have hfb1 : T1.heap[Fb]? = some (.cells #[.int .i64 0] 3 (0, 0)) := (HT1.out Fb (Ne.symm HLF.out)).trans hfb
    have HU1 : Hid (T1.heap[U]? = some (.cells #[.int .i64 x, .slice a1 n1 c1, .slice a2 n2 c2, .slice a3 n3 c3, .slice a4 n4 c4, .slice a5 n5 c5, .int .i64 (V : Int), .int .i64 (nf : Int)] 67 (0, 0))) := (HT1.out U (Ne.symm HLU.out)).trans (heap_below HU.out HY_M2.out)
    have HST : Hid (T1.cell? ⟨U, 0, none⟩ = some (.int .i64 x) ∧ T1.cell? ⟨U, 1, none⟩ = some (.slice a1 n1 c1) ∧ T1.cell? ⟨U, 2, none⟩ = some (.slice a2 n2 c2) ∧ T1.cell? ⟨U, 3, none⟩ = some (.slice a3 n3 c3) ∧ T1.cell? ⟨U, 4, none⟩ = some (.slice a4 n4 c4) ∧ T1.cell? ⟨U, 5, none⟩ = some (.slice a5 n5 c5) ∧ T1.cell? ⟨U, 6, none⟩ = some (.int .i64 (V : Int)) ∧ T1.cell? ⟨U, 7, none⟩ = some (.int .i64 (nf : Int))) := ⟨cell_of_block HU1.out 0, cell_of_block HU1.out 1, cell_of_block HU1.out 2, cell_of_block HU1.out 3, cell_of_block HU1.out 4, cell_of_block HU1.out 5, cell_of_block HU1.out 6, cell_of_block HU1.out 7⟩
    clear kT hl1 hb1 hl
    refine hK.out _ _ HST.out (fun _ => ?_)
    clear hK K
    try simp only [Act.put, List.setIfInBounds_toArray, List.set_cons_zero, List.set_cons_succ]
    have d0 : T1.cell? ⟨Fb, 0, none⟩ = some (.int .i64 0) := cell_of_block hfb1 0
    have y0 := unfrozen_of_block hfb1 0
    refine wpAnyH_ready (rs := [7]) (by kernel_rfl) (by simp) ?_
    refine AllReadyH.cons (by simp only [List.getElem?_toArray, List.getElem?_cons_zero, List.getElem?_cons_succ]; rfl) (fun K hK => ?_) AllReadyH.nil
    go_simp
    generalize hT2 : World.setCell T1 _ _ = T2
    have kT : ∀ D, D ≠ Fb → T2.heap[D]? = T1.heap[D]? := by subst hT2; intro D hD; exact Below.heap_setCell T1 ⟨Fb, 0, .none⟩ _ D hD
    have hf2 : T2.heap[Fb]? = some (.cells #[.int .i64 (first : Int)] 3 (0, 0)) := by subst hT2; simpa using block_setCell hfb1 (i := 0) (.int .i64 (first : Int))
    have hb2 : Below w.heap.size w T2 := by subst hT2; exact HB1.out.setCell (p := ⟨Fb, 0, .none⟩) HF0.out _
    clear hT2 d0 y0 hfb hfb1
    have HT2 := Lib.hid kT
    have HF2 := Lib.hid hf2
    have HB2 := Lib.hid hb2
    clear kT hf2 hb2
    have HU2 : Hid (T2.heap[U]? = some (.cells #[.int .i64 x, .slice a1 n1 c1, .slice a2 n2 c2, .slice a3 n3 c3, .slice a4 n4 c4, .slice a5 n5 c5, .int .i64 (V : Int), .int .i64 (nf : Int)] 67 (0, 0))) := (HT2.out U (Ne.symm HFU.out)).trans HU1.out
    have HST2 : Hid (T2.cell? ⟨U, 0, none⟩ = some (.int .i64 x) ∧ T2.cell? ⟨U, 1, none⟩ = some (.slice a1 n1 c1) ∧ T2.cell? ⟨U, 2, none⟩ = some (.slice a2 n2 c2) ∧ T2.cell? ⟨U, 3, none⟩ = some (.slice a3 n3 c3) ∧ T2.cell? ⟨U, 4, none⟩ = some (.slice a4 n4 c4) ∧ T2.cell? ⟨U, 5, none⟩ = some (.slice a5 n5 c5) ∧ T2.cell? ⟨U, 6, none⟩ = some (.int .i64 (V : Int)) ∧ T2.cell? ⟨U, 7, none⟩ = some (.int .i64 (nf : Int))) := ⟨cell_of_block HU2.out 0, cell_of_block HU2.out 1, cell_of_block HU2.out 2, cell_of_block HU2.out 3, cell_of_block HU2.out 4, cell_of_block HU2.out 5, cell_of_block HU2.out 6, cell_of_block HU2.out 7⟩
    refine hK.out _ _ HST2.out (fun _ => ?_)
    clear hK K
    try simp only [Act.put, List.setIfInBounds_toArray, List.set_cons_zero, List.set_cons_succ]
    refine wpAnyH_done (by kernel_rfl) ?_ _
    refine NoPanic.normal ?_
    have hgg := HG_M2.out
    have hgL : s2.heap.size ≠ Lb := by intro e; rw [e, heap_below HL.out HY_M2.out] at hgg; injection hgg with h1; injection h1 with _ h2; exact absurd h2 (by decide)
    have hgF : s2.heap.size ≠ Fb := by intro e; rw [e, heap_below HF.out HY_M2.out] at hgg; injection hgg with h1; injection h1 with _ h2; exact absurd h2 (by decide)
    exact HKK.out s2.heap.size T2 _ _ _ _ _ _ ((HT2.out _ hgF).trans ((HT1.out _ hgL).trans hgg)) HGW.out ((HT2.out _ HLF.out).trans HL1.out) HF2.out HU2.out HB2.out
end Go.Proofs.Ytcoehbkjccfhlaa
