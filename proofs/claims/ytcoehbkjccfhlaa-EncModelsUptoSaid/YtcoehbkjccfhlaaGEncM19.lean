/- Package loop, on plain lists: the states of a trace, the last frame with a state, what comes again, what remains. -/
import Derived.Test.YtcoehbkjccfhlaaGEncM03
import Derived.Test.YtcoehbkjccfhlaaGEncM01
import Derived.Test.YtcoehbkjccfhlaaGEncM04
import Derived.Test.YtcoehbkjccfhlaaGEncM05
import Derived.Test.YtcoehbkjccfhlaaGEncM13
import Derived.Test.YtcoehbkjccfhlaaGEncM12
import Derived.Test.YtcoehbkjccfhlaaGEncM17
import Derived.Test.YtcoehbkjccfhlaaEnGv
import Derived.Test.YtcoehbkjccfhlaaGEncM18
import Derived.Test.YtcoehbkjccfhlaaRows
import Derived.BigQuiet
import Derived.Deep.AppendLies
import Derived.Deep.CutRange
import Derived.Deep.QuietTactic
import Derived.Deep.RegionHeld3
import Derived.Deep.RegionLaw
import Derived.Deep.RegionWith
import Derived.KernelRfl
import Derived.Laws.Bits64b
import Derived.Laws.BitsAllLaws
import Derived.Laws.BitsLemmas
import Derived.Laws.EntriesVeiled
import Derived.Laws.Tables
import Derived.Lib.AppendStr
import Derived.Lib.AppendZeros
import Derived.Lib.ConvBytes
import Derived.Lib.Hide
import Derived.Lib.SlBytesRow
import Derived.Lib.SmallJoins
import Derived.LoopIn
import Derived.LoopNIn
import Derived.Maps.AppendAt
import Derived.OrdersHeld
import Derived.OrdersIn
import Derived.OwnWalkIn
import Derived.RangeFuncBox
import Derived.RangeFuncCalls
import Derived.RangeFuncLeaves
import Derived.RangeFuncNested
import Derived.RangeFuncWrites
import Derived.Shelf.Abstract
import Derived.Shelf.Bytes.SlSmallAll
import Derived.Shelf.RegionOpen
import Derived.Sort.CutIn
import Derived.Stop.RegionWithIn
import Derived.TacticsInMore
import Derived.WalkKit
import Derived.WalkLawsBesides
import Derived.WalkSpells
import Derived.Test.YtcoehbkjccfhlaaGEncM10
/- The run of a trace without X is a model of the clauses, and of what is told. -/
namespace Go.Proofs.Ytcoehbkjccfhlaa
open Go Go.RowKit Go.Joins

theorem getD_app_lt {l r : List UInt8} {v : Nat} (h : v < l.length) : (l ++ r).getD v 0 = l.getD v 0 := by
  simp [List.getD, List.getElem?_append_left h]
theorem gates_old : ∀ (l : List (Nat × Nat)) (vs : List UInt8) (v : Nat), v < vs.length → (k1.gates l vs).getD v 0 = vs.getD v 0
  | [], _, _, _ => rfl
  | g :: r, vs, v, h => by
    rw [Kd.gates, gates_old r _ v (by simp; omega), getD_app_lt h]
theorem val_old (l : List (Nat × Nat)) (vs : List UInt8) (x : Nat) (h : x / 2 < vs.length) : k1.val (k1.gates l vs) x = k1.val vs x := by
  have e : (k1.gates l vs).getD (x / 2) k1.z = vs.getD (x / 2) k1.z := gates_old l vs (x / 2) h
  unfold Kd.val
  rw [e]
theorem gates_get : ∀ (l : List (Nat × Nat)) (vs : List UInt8) (j : Nat), j < l.length → (l.getD j (0, 0)).1 / 2 < vs.length + j → (l.getD j (0, 0)).2 / 2 < vs.length + j →
    (k1.gates l vs).getD (vs.length + j) 0 = k1.an (k1.val (k1.gates l vs) (l.getD j (0, 0)).1) (k1.val (k1.gates l vs) (l.getD j (0, 0)).2)
  | g :: r, vs, 0, _, h1, h2 => by
    have e1 : g.1 / 2 < vs.length := h1
    have e2 : g.2 / 2 < vs.length := h2
    show _ = k1.an (k1.val (k1.gates (g :: r) vs) g.1) (k1.val (k1.gates (g :: r) vs) g.2)
    rw [val_old _ _ _ e1, val_old _ _ _ e2, Kd.gates, gates_old r _ _ (by simp)]
    simp [List.getD]
  | g :: r, vs, j + 1, h, h1, h2 => by
    have hl : (vs ++ [k1.an (k1.val vs g.1) (k1.val vs g.2)]).length = vs.length + 1 := by simp
    have e : (g :: r).getD (j + 1) (0, 0) = r.getD j (0, 0) := rfl
    have ih := gates_get r (vs ++ [k1.an (k1.val vs g.1) (k1.val vs g.2)]) j (by simpa using h) (by rw [hl, ← e]; omega) (by rw [hl, ← e]; omega)
    rw [hl, show vs.length + 1 + j = vs.length + (j + 1) by omega] at ih
    rw [e]
    exact ih
/-- No X. -/
def NoX (l : List UInt8) : Prop := ∀ u ∈ l, u.toNat ≤ 1
theorem noX_getD {l : List UInt8} (h : NoX l) (v : Nat) : (l.getD v 0).toNat ≤ 1 := by
  rw [List.getD]
  cases e : l[v]? with
  | none => decide
  | some u => exact h u (List.mem_of_getElem? e)
theorem nt_noX {u : UInt8} (h : u.toNat ≤ 1) : (k1.nt u).toNat = 1 - u.toNat := by
  show (UInt8.ofNat (not1 u.toNat)).toNat = _
  obtain e | e : u.toNat = 0 ∨ u.toNat = 1 := by omega
  · rw [e]; rfl
  · rw [e]; rfl
theorem an_noX {u v : UInt8} (h : u.toNat ≤ 1) (h2 : v.toNat ≤ 1) : (k1.an u v).toNat = u.toNat * v.toNat := by
  show (UInt8.ofNat (and1 u.toNat v.toNat)).toNat = _
  obtain e | e : u.toNat = 0 ∨ u.toNat = 1 := by omega
  · rw [e]
    obtain e2 | e2 : v.toNat = 0 ∨ v.toNat = 1 := by omega
    · rw [e2]; rfl
    · rw [e2]; rfl
  · rw [e]
    obtain e2 | e2 : v.toNat = 0 ∨ v.toNat = 1 := by omega
    · rw [e2]; rfl
    · rw [e2]; rfl
theorem val_noX {l : List UInt8} (h : NoX l) (x : Nat) : (k1.val l x).toNat ≤ 1 := by
  have h1 : (l.getD (x / 2) k1.z).toNat ≤ 1 := noX_getD h (x / 2)
  unfold Kd.val
  split
  · rw [nt_noX h1]; omega
  · exact h1
theorem gates_noX : ∀ (l : List (Nat × Nat)) (vs : List UInt8), NoX vs → NoX (k1.gates l vs)
  | [], _, h => h
  | g :: r, vs, h => by
    rw [Kd.gates]
    refine gates_noX r _ (fun u hu => ?_)
    rcases List.mem_append.1 hu with hu | hu
    · exact h u hu
    · obtain rfl := List.mem_singleton.1 hu
      have h1 := val_noX h g.1
      have h2 := val_noX h g.2
      rw [an_noX h1 h2]
      have := Nat.mul_le_mul h1 h2
      omega
theorem vars_noX {c : NormC} {st ins : List UInt8} (h1 : NoX st) (h2 : NoX ins) : NoX (k1.vars c st ins) := by
  refine gates_noX _ _ (fun u hu => ?_)
  rcases List.mem_cons.1 hu with rfl | hu
  · decide
  · rcases List.mem_append.1 hu with hu | hu
    · exact h2 u hu
    · exact h1 u hu
theorem after_noX {c : NormC} : ∀ (fs : List (List UInt8)) (st : List UInt8), NoX st → (∀ f ∈ fs, NoX f) → NoX (k1.after c st fs)
  | [], _, h, _ => h
  | f :: r, st, h, h2 => by
    rw [Kd.after]
    refine after_noX r _ (fun u hu => ?_) (fun g hg => h2 g (List.mem_cons_of_mem _ hg))
    obtain ⟨p, _, rfl⟩ := List.mem_map.1 hu
    exact val_noX (vars_noX h (h2 f (List.mem_cons_self ..))) p.1
/-- A trace without X. -/
structure TNoX (t : TraceC) : Prop where
  init : NoX t.init
  frames : ∀ f ∈ t.frames, NoX f
theorem frame_noX {t : TraceC} (h : TNoX t) (f : Nat) : NoX (t.frames.getD f []) := by
  rw [List.getD]
  cases e : t.frames[f]? with
  | none => exact fun u hu => by cases hu
  | some l => exact h.frames l (List.mem_of_getElem? e)
theorem varsAt_noX {c : NormC} {t : TraceC} (h : TNoX t) (f : Nat) : NoX (varsAt c t f) :=
  vars_noX (after_noX _ _ h.init (fun g hg => h.frames g (List.mem_of_mem_take hg))) (frame_noX h f)
/-- The model of a run. -/
structure IsRun (M : Nat → Bool) (c : NormC) (t : TraceC) : Prop where
  one : M 1 = true
  at_ : ∀ f v, f < t.frames.length → 1 ≤ v → v ≤ varsN c → M (spotE (varsN c) v f) = decide (((varsAt c t f).getD v 0).toNat = 1)
section
variable {M : Nat → Bool} {c : NormC} {t : TraceC}
theorem IsRun.lit (h : IsRun M c t) (hx : TNoX t) {f x : Nat} (hf : f < t.frames.length) (hv : x / 2 ≤ varsN c) : litM M (litE (varsN c) x f) = decide ((k1.val (varsAt c t f) x).toNat = 1) := by
  have hn : absE (varsN c) x f ≠ 0 := by unfold absE spotE; split <;> omega
  have ha : litM M (absE (varsN c) x f) = decide (((varsAt c t f).getD (x / 2) 0).toNat = 1) := by
    unfold absE
    by_cases e : x / 2 = 0
    · have hp : litM M (-1) = !M 1 := litM_neg M (s := 1) (by omega)
      rw [if_pos e, e, varsAt_head, hp, h.one]; rfl
    · rw [if_neg e, litM_pos M (by unfold spotE; omega)]; exact h.at_ f _ hf (by omega) hv
  have h1 := noX_getD (varsAt_noX (c := c) hx f) (x / 2)
  unfold litE Kd.val
  by_cases e : x % 2 = 1
  · rw [if_pos e, if_pos e, litM_not M hn, ha]
    have h2 : (k1.nt ((varsAt c t f).getD (x / 2) k1.z)).toNat = 1 - ((varsAt c t f).getD (x / 2) 0).toNat := nt_noX h1
    rw [h2]
    obtain e2 | e2 : ((varsAt c t f).getD (x / 2) 0).toNat = 0 ∨ ((varsAt c t f).getD (x / 2) 0).toNat = 1 := by omega
    · rw [e2]; rfl
    · rw [e2]; rfl
  · rw [if_neg e, if_neg e, ha]; rfl
theorem state_len (h : FitsC c t) (f : Nat) : (k1.after c t.init (t.frames.take f)).length = c.lats.length := k1.after_len c _ _ h.init
theorem frame_len (h : FitsC c t) {f : Nat} (hf : f < t.frames.length) : (t.frames.getD f []).length = c.ins.toNat := by have := h.frames f hf; omega
theorem at_in (h : FitsC c t) {f i : Nat} (hf : f < t.frames.length) (hi : i < c.ins.toNat) : (varsAt c t f).getD (1 + i) 0 = (t.frames.getD f []).getD i 0 := by
  have hl := frame_len h hf
  unfold varsAt Kd.vars
  rw [gates_old _ _ _ (by simp only [List.length_cons, List.length_append]; omega), Nat.add_comm]
  show ((t.frames.getD f []) ++ _).getD i 0 = _
  rw [getD_app_lt (by omega)]
theorem at_lat (h : FitsC c t) {f i : Nat} (hf : f < t.frames.length) (hi : i < c.lats.length) : (varsAt c t f).getD (firstLatE c + i) 0 = (k1.after c t.init (t.frames.take f)).getD i 0 := by
  have hl := frame_len h hf
  have hs := state_len h f
  unfold varsAt Kd.vars firstLatE
  rw [gates_old _ _ _ (by simp only [List.length_cons, List.length_append]; omega), show 1 + c.ins.toNat + i = (c.ins.toNat + i) + 1 by omega]
  show ((t.frames.getD f []) ++ _).getD (c.ins.toNat + i) 0 = _
  rw [List.getD, List.getElem?_append_right (by omega), hl, Nat.add_sub_cancel_left]
  rfl
theorem at_next (h : FitsC c t) {f i : Nat} (hf : f + 1 < t.frames.length) (hi : i < c.lats.length) : (varsAt c t (f + 1)).getD (firstLatE c + i) 0 = k1.val (varsAt c t f) (c.lats.getD i (0, 0)).1 := by
  rw [at_lat h hf hi, List.take_succ_eq_append_getElem (by omega), Kd.after_snoc]
  have e : t.frames[f] = t.frames.getD f [] := by simp [List.getD, List.getElem?_eq_getElem (show f < t.frames.length by omega)]
  rw [e]
  unfold Kd.next
  simp [List.getD, List.getElem?_eq_getElem hi]
  rfl
theorem at_gate (h : FitsC c t) {f i : Nat} (hf : f < t.frames.length) (hi : i < c.gates.length) : (varsAt c t f).getD (firstGateE c + i) 0 = k1.an (k1.val (varsAt c t f) (c.gates.getD i (0, 0)).1) (k1.val (varsAt c t f) (c.gates.getD i (0, 0)).2) := by
  have hl := frame_len h hf
  have hs := state_len h f
  have hg := h.may.gates i hi
  have e : (k1.z :: ((t.frames.getD f []) ++ k1.after c t.init (t.frames.take f))).length = firstGateE c := by simp only [List.length_cons, List.length_append, firstGateE]; omega
  have h1 := gates_get c.gates (k1.z :: ((t.frames.getD f []) ++ k1.after c t.init (t.frames.take f))) i hi (by rw [e]; unfold firstGateE; omega) (by rw [e]; unfold firstGateE; omega)
  rw [e] at h1
  exact h1
theorem tell_of {V v f val : Nat} (hv : val ≤ 1) (h : M (spotE V v f) = decide (val = 1)) : ∀ x ∈ tellE V v f val, litM M x = true := by
  have hs : 0 < spotE V v f := by unfold spotE; omega
  intro x hx
  unfold tellE at hx
  by_cases e : val = 0
  · rw [if_pos e] at hx
    obtain rfl := List.mem_singleton.1 hx
    rw [litM_neg M hs, h, e]
    rfl
  · obtain rfl : val = 1 := by omega
    rw [if_neg e, if_pos rfl] at hx
    obtain rfl := List.mem_singleton.1 hx
    rw [litM_pos M hs, h]
    rfl
theorem IsRun.given (h : IsRun M c t) (ht : FitsC c t) (hx : TNoX t) : ∀ x ∈ givE c t, litM M x = true := by
  intro x hm
  rcases List.mem_append.1 hm with hm | hm
  · obtain ⟨i, hi, hm⟩ := upE_mem.1 hm
    unfold latG at hm
    split at hm
    · refine tell_of (noX_getD hx.init i) ?_ x hm
      rw [h.at_ 0 _ (by have := ht.one; omega) (by unfold firstLatE; omega) (by unfold firstLatE varsN; omega), at_lat ht (by have := ht.one; omega) hi]
      rfl
    · cases hm
  · obtain ⟨f, hf, hm⟩ := upE_mem.1 hm
    obtain ⟨i, hi, hm⟩ := upE_mem.1 hm
    refine tell_of (noX_getD (frame_noX hx f) i) ?_ x hm
    rw [h.at_ f _ hf (by omega) (by unfold varsN; omega), at_in ht hf hi]
theorem IsRun.clauses (h : IsRun M c t) (ht : FitsC c t) (hx : TNoX t) : ∀ cl ∈ allE c t.frames.length, clM M cl.2 = true := by
  intro cl hm
  rcases List.mem_cons.1 hm with rfl | hm
  · simp [clM, litM, h.one]
  · obtain ⟨f, hf, hm⟩ := upE_mem.1 hm
    rcases List.mem_append.1 hm with hm | hm
    · unfold latsE at hm
      by_cases e0 : f = 0
      · rw [if_pos e0] at hm
        obtain ⟨i, hi, hm⟩ := upE_mem.1 hm
        have hs : 0 < spotE (varsN c) (firstLatE c + i) 0 := by unfold spotE; omega
        have hv := h.at_ 0 (firstLatE c + i) (by omega) (by unfold firstLatE; omega) (by unfold firstLatE varsN; omega)
        rw [at_lat ht (by omega) hi] at hv
        have hr := ht.resets i hi
        have hv2 : M (spotE (varsN c) (firstLatE c + i) 0) = decide ((t.init.getD i 0).toNat = 1) := hv
        unfold resetE at hm
        by_cases e1 : (c.lats.getD i (0, 0)).2 = 0
        · rw [if_pos e1] at hm
          obtain rfl := List.mem_singleton.1 hm
          have e : (t.init.getD i 0).toNat = 0 := by omega
          rw [e] at hv2
          simp [clM, litM_neg M hs, hv2]
        · rw [if_neg e1] at hm
          by_cases e2 : (c.lats.getD i (0, 0)).2 = 1
          · rw [if_pos e2] at hm
            obtain rfl := List.mem_singleton.1 hm
            have e : (t.init.getD i 0).toNat = 1 := by omega
            rw [e] at hv2
            simp [clM, litM_pos M hs, hv2]
          · rw [if_neg e2] at hm
            cases hm
      · rw [if_neg e0] at hm
        obtain ⟨i, hi, hm⟩ := upE_mem.1 hm
        obtain ⟨g, rfl⟩ : ∃ g, f = g + 1 := ⟨f - 1, by omega⟩
        have hs : 0 < spotE (varsN c) (firstLatE c + i) (g + 1) := by unfold spotE; omega
        have hv := h.at_ (g + 1) (firstLatE c + i) hf (by unfold firstLatE; omega) (by unfold firstLatE varsN; omega)
        have hl := ht.may.lats (c.lats.getD i (0, 0)) (getD_mem hi)
        rw [at_next ht hf hi, ← h.lit hx (by omega) (by omega)] at hv
        simp only [nextE, Nat.add_sub_cancel, List.mem_cons, List.not_mem_nil, or_false] at hm
        have hy := litE_ne (varsN c) (c.lats.getD i (0, 0)).1 g
        generalize litE (varsN c) (c.lats.getD i (0, 0)).1 g = y at hv hm hy
        rcases hm with rfl | rfl
        · simp only [clM, List.any_cons, List.any_nil, Bool.or_false, litM_neg M hs, hv]
          cases litM M y <;> rfl
        · simp only [clM, List.any_cons, List.any_nil, Bool.or_false, litM_pos M hs, litM_not M hy, hv]
          cases litM M y <;> rfl
    · obtain ⟨i, hi, hm⟩ := upE_mem.1 hm
      have hs : 0 < spotE (varsN c) (firstGateE c + i) f := by unfold spotE; omega
      have hv := h.at_ f (firstGateE c + i) hf (by unfold firstGateE; omega) (by unfold firstGateE varsN; omega)
      have hg := ht.may.gates i hi
      have hvs : varsN c = c.ins.toNat + c.lats.length + c.gates.length := rfl
      have h1 := val_noX (varsAt_noX (c := c) hx f) (c.gates.getD i (0, 0)).1
      have h2 := val_noX (varsAt_noX (c := c) hx f) (c.gates.getD i (0, 0)).2
      have han : decide ((k1.an (k1.val (varsAt c t f) (c.gates.getD i (0, 0)).1) (k1.val (varsAt c t f) (c.gates.getD i (0, 0)).2)).toNat = 1) = (decide ((k1.val (varsAt c t f) (c.gates.getD i (0, 0)).1).toNat = 1) && decide ((k1.val (varsAt c t f) (c.gates.getD i (0, 0)).2).toNat = 1)) := by
        rw [an_noX h1 h2]
        generalize (k1.val (varsAt c t f) (c.gates.getD i (0, 0)).1).toNat = p at h1 ⊢
        generalize (k1.val (varsAt c t f) (c.gates.getD i (0, 0)).2).toNat = q at h2 ⊢
        obtain rfl | rfl : p = 0 ∨ p = 1 := by omega
        · simp
        · simp
      rw [at_gate ht hf hi, han, ← h.lit hx hf (by omega), ← h.lit hx hf (by omega)] at hv
      have hy := litE_ne (varsN c) (c.gates.getD i (0, 0)).1 f
      have hz := litE_ne (varsN c) (c.gates.getD i (0, 0)).2 f
      simp only [gateE, List.mem_cons, List.not_mem_nil, or_false] at hm
      generalize litE (varsN c) (c.gates.getD i (0, 0)).1 f = y at hv hm hy
      generalize litE (varsN c) (c.gates.getD i (0, 0)).2 f = z at hv hm hz
      rcases hm with rfl | rfl | rfl
      · simp only [clM, List.any_cons, List.any_nil, Bool.or_false, litM_neg M hs, hv]
        cases litM M y <;> cases litM M z <;> rfl
      · simp only [clM, List.any_cons, List.any_nil, Bool.or_false, litM_neg M hs, hv]
        cases litM M y <;> cases litM M z <;> rfl
      · simp only [clM, List.any_cons, List.any_nil, Bool.or_false, litM_pos M hs, litM_not M hy, litM_not M hz, hv]
        cases litM M y <;> cases litM M z <;> rfl
end
end Go.Proofs.Ytcoehbkjccfhlaa
namespace Go.Proofs.Ytcoehbkjccfhlaa
open Go Go.RowKit Go.Joins

/-- The last of the first k frames that has this state (0 if none has). -/
def lastN (S : List (List UInt8)) (s : List UInt8) : Nat → Nat
  | 0 => 0
  | k + 1 => if S.getD k [] = s then k else lastN S s k
/-- The last frame with the state of frame i. -/
def lastI (S : List (List UInt8)) (i : Nat) : Nat := lastN S (S.getD i []) S.length
theorem lastN_lt {S : List (List UInt8)} {s : List UInt8} : ∀ {k : Nat}, 0 < k → lastN S s k < k
  | k + 1, _ => by
    unfold lastN
    split
    · omega
    · cases k with
      | zero => simp [lastN]
      | succ k => have := lastN_lt (S := S) (s := s) (k := k + 1) (by omega); omega
theorem lastN_ge {S : List (List UInt8)} {s : List UInt8} {i : Nat} : ∀ {k : Nat}, i < k → S.getD i [] = s → i ≤ lastN S s k ∧ S.getD (lastN S s k) [] = s
  | k + 1, h, e => by
    unfold lastN
    split
    · rename_i h1; exact ⟨by omega, h1⟩
    · rename_i h1
      have : i ≠ k := fun h2 => h1 (by rw [← h2]; exact e)
      exact lastN_ge (by omega) e
theorem lastN_none {S : List (List UInt8)} {s : List UInt8} : ∀ {k j : Nat}, lastN S s k < j → j < k → S.getD j [] ≠ s
  | k + 1, j, h, hj => by
    unfold lastN at h
    split at h
    · omega
    · rename_i h1
      by_cases e : j = k
      · subst e; exact h1
      · exact lastN_none h (by omega)
theorem lastI_ge {S : List (List UInt8)} {i : Nat} (h : i < S.length) : i ≤ lastI S i := (lastN_ge h rfl).1
theorem lastI_same {S : List (List UInt8)} {i : Nat} (h : i < S.length) : S.getD (lastI S i) [] = S.getD i [] := (lastN_ge h rfl).2
theorem lastI_lt {S : List (List UInt8)} {i : Nat} (h : i < S.length) : lastI S i < S.length := lastN_lt (by omega)
theorem lastI_none {S : List (List UInt8)} {i j : Nat} (h : lastI S i < j) (hj : j < S.length) : S.getD j [] ≠ S.getD i [] := lastN_none h hj

/-- What remains from frame i on. -/
def remL (S : List (List UInt8)) : Nat → Nat → List Nat
  | 0, _ => []
  | f + 1, i => if i < S.length then lastI S i :: remL S f (lastI S i + 1) else []
def remS (S : List (List UInt8)) : List Nat := remL S S.length 0
theorem remL_end {S : List (List UInt8)} (f i : Nat) (h : S.length ≤ i) : remL S f i = [] := by
  cases f with
  | zero => rfl
  | succ f => unfold remL; rw [if_neg (by omega)]
theorem remL_go {S : List (List UInt8)} {f i : Nat} (h : i < S.length) (hf : S.length ≤ i + f) : ∃ g, S.length ≤ lastI S i + 1 + g ∧ remL S f i = lastI S i :: remL S g (lastI S i + 1) := by
  cases f with
  | zero => omega
  | succ f =>
    have := lastI_ge h
    exact ⟨f, by omega, by rw [remL, if_pos h]⟩
theorem remL_lt {S : List (List UInt8)} : ∀ (f i : Nat), ∀ x ∈ remL S f i, x < S.length
  | 0, _, x, h => by cases h
  | f + 1, i, x, h => by
    rw [remL] at h
    split at h
    · rename_i h1
      rcases List.mem_cons.1 h with rfl | h2
      · exact lastI_lt h1
      · exact remL_lt f _ x h2
    · cases h
theorem remL_len {S : List (List UInt8)} : ∀ (f i : Nat), i ≤ S.length → (remL S f i).length + i ≤ S.length
  | 0, i, h => by simp [remL]; exact h
  | f + 1, i, h => by
    rw [remL]
    split
    · rename_i h1
      have h2 := lastI_ge h1
      have h3 := remL_len (S := S) f (lastI S i + 1) (lastI_lt h1)
      simp only [List.length_cons]
      omega
    · simpa using h
theorem remS_len (S : List (List UInt8)) : (remS S).length ≤ S.length := by have := remL_len (S := S) S.length 0 (Nat.zero_le _); simpa [remS] using this

/-- The first frame whose state comes again. -/
def againO (S : List (List UInt8)) : Option Nat := (List.range S.length).find? fun i => decide (i < lastI S i)
def againE (S : List (List UInt8)) : Ending := match againO S with
  | some i => .returned (.tuple #[.int .i64 (i : Int), .int .i64 (lastI S i : Int), .bool true])
  | none => .returned (.tuple #[.int .i64 0, .int .i64 0, .bool false])
theorem again_hit {S : List (List UInt8)} {k : Nat} (h : ∀ j, j < k → lastI S j ≤ j) (hk : k < S.length) (hl : k < lastI S k) : againE S = .returned (.tuple #[.int .i64 (k : Int), .int .i64 (lastI S k : Int), .bool true]) := by
  have e : againO S = some k := by
    unfold againO
    rw [List.find?_range_eq_some]
    refine ⟨by simpa using hl, by simpa using hk, fun j hj => ?_⟩
    have := h j hj
    simp; omega
  unfold againE
  rw [e]
theorem again_miss {S : List (List UInt8)} (h : ∀ j, j < S.length → lastI S j ≤ j) : againE S = .returned (.tuple #[.int .i64 0, .int .i64 0, .bool false]) := by
  have e : againO S = none := by
    unfold againO
    rw [List.find?_range_eq_none]
    intro j hj
    have := h j hj
    simp; omega
  unfold againE
  rw [e]

/-- The latches in a frame. -/
def stAt (c : NormC) (t : TraceC) (k : Nat) : List UInt8 := k1.after c t.init (t.frames.take k)
def statesL (c : NormC) (t : TraceC) : List (List UInt8) := (List.range t.frames.length).map (stAt c (readT t))
/-- The states, if the trace fits. -/
def statesO (c : NormC) (t : TraceC) : List (List UInt8) := if fitsS c t = true then statesL c t else []
theorem statesL_len (c : NormC) (t : TraceC) : (statesL c t).length = t.frames.length := by simp [statesL]
theorem statesL_at (c : NormC) (t : TraceC) {k : Nat} (h : k < t.frames.length) : (statesL c t).getD k [] = stAt c (readT t) k := by simp [statesL, List.getD, h]
theorem k1_gates_pre : ∀ (l : List (Nat × Nat)) (vars : List UInt8), ∃ r, k1.gates l vars = vars ++ r
  | [], vars => ⟨[], by simp [Kd.gates]⟩
  | g :: r, vars => by
    obtain ⟨q, hq⟩ := k1_gates_pre r (vars ++ [k1.an (k1.val vars g.1) (k1.val vars g.2)])
    exact ⟨[k1.an (k1.val vars g.1) (k1.val vars g.2)] ++ q, by rw [Kd.gates, hq, List.append_assoc]⟩
theorem stAt_len {c : NormC} {t : TraceC} (h : FitsC c t) (k : Nat) : (stAt c t k).length = c.lats.length := k1.after_len c _ _ h.init
theorem varsAt_state {c : NormC} {t : TraceC} (h : FitsC c t) {k : Nat} (hk : k < t.frames.length) : ((varsAt c t k).drop (1 + c.ins.toNat)).take c.lats.length = stAt c t k := by
  have hi := h.frames k hk
  have hl := stAt_len h k
  have hn : c.ins.toNat = (t.frames.getD k []).length := by omega
  have e : varsAt c t k = k1.gates c.gates (k1.z :: (t.frames.getD k [] ++ stAt c t k)) := rfl
  obtain ⟨r, hr⟩ := k1_gates_pre c.gates (k1.z :: (t.frames.getD k [] ++ stAt c t k))
  rw [e, hr, hn, Nat.add_comm, List.cons_append, List.drop_succ_cons, List.append_assoc, List.drop_left, ← hl, List.take_left]
theorem stAt_succ {c : NormC} {t : TraceC} {k : Nat} (hk : k < t.frames.length) : stAt c t (k + 1) = k1.next c (k1.vars c (stAt c t k) (t.frames.getD k [])) := by
  unfold stAt
  rw [List.take_add_one, List.getElem?_eq_getElem hk]
  simp only [Option.toList_some]
  rw [Kd.after_snoc]
  simp [List.getD, List.getElem?_eq_getElem hk]

/-- Does the trace fail? -/
def failsB (c : NormC) (t : TraceC) : Bool := decide ((k1.verdict c t.bad.toNat (readT t).init (readT t).frames).toNat = 1)
/-- What remains of a trace. -/
def cutT (c : NormC) (t : TraceC) : TraceC := ⟨t.bad, zeroL t.init, (remS (statesL c t)).map fun k => zeroL (t.frames.getD k [])⟩
/-- What Cut answers. -/
def cutO (c : NormC) (t : TraceC) : TraceC × List Nat × Int := if fitsS c t = true then (if failsB c t = true then (cutT c t, remS (statesL c t), 0) else (⟨0, [], []⟩, [], 10)) else (⟨0, [], []⟩, [], 2)
end Go.Proofs.Ytcoehbkjccfhlaa
