/- queue.New, by its contract. -/
import Derived.Test.YthedgbdnidghnaaOwn
import Derived.Test.YthedgbdnidghnaaNBase
import Derived.Test.YthedgbdnidghnaaQuPure
import Derived.Test.YthedgbdnidghnaaQuW
import Derived.Test.YthedgbdnidghnaaQuPut
import Derived.Test.YthedgbdnidghnaaQuOps
import Derived.Test.YthedgbdnidghnaaQuReg
import Derived.Test.YthedgbdnidghnaaRows
import Derived.ArgAppend
import Derived.BigQuiet
import Derived.Deep.AppendLies
import Derived.Deep.CutRange
import Derived.Deep.QuietTactic
import Derived.Deep.RegionHeld3
import Derived.Deep.RegionLaw
import Derived.Deep.RegionWith
import Derived.KernelRfl
import Derived.Laws.EntriesVeiled
import Derived.Lib.ConvBytes
import Derived.Lib.Hide
import Derived.Lib.SlBytesRow
import Derived.Lib.SmallJoins
import Derived.OrdersHeld
import Derived.Shelf.Bytes.SlSmallAll
import Derived.WalkKit
import Derived.WalkLawsBesides
import Derived.WalkSpells
namespace Go.Proofs.Ythedgbdnidghnaa
open Go Go.RowKit Go.Joins

/-- The first i variables stand in the heap. -/
structure NewI (n i : Nat) (hp : List Nat) (pl : List Int) : Prop where
  h : ∀ k, k < n → hp.getD k 0 = if k < i then k + 1 else 0
  p : ∀ u, pl.getD u 0 = if 1 ≤ u ∧ u ≤ i then (u : Int) - 1 else 0

theorem newI_zero (n : Nat) : NewI n 0 (List.replicate n 0) (List.replicate (n + 1) 0) := by
  refine ⟨fun k hk => ?_, fun u => ?_⟩
  · rw [if_neg (by omega)]; simp [List.getD, hk]
  · rw [if_neg (by omega)]; simp only [List.getD, List.getElem?_replicate]; split <;> rfl
theorem newI_step {n i : Nat} {hp : List Nat} {pl : List Int} (H : NewI n i hp pl) (hl : hp.length = n) (pll : pl.length = n + 1) (hi : i < n) : NewI n (i + 1) (hp.set i (i + 1)) (pl.set (i + 1) i) := by
  refine ⟨fun k hk => ?_, fun u => ?_⟩
  · by_cases e : k = i
    · subst e; rw [getD_setE _ _ _ _ (by omega), if_pos (by omega)]
    · rw [getD_setN _ _ _ _ _ e, H.h k hk]
      by_cases e2 : k < i
      · rw [if_pos e2, if_pos (by omega)]
      · rw [if_neg e2, if_neg (by omega)]
  · by_cases e : u = i + 1
    · subst e; rw [getD_setE _ _ _ _ (by omega), if_pos (by omega)]; omega
    · rw [getD_setN _ _ _ _ _ e, H.p u]
      by_cases e2 : 1 ≤ u ∧ u ≤ i
      · rw [if_pos e2, if_pos (by omega)]
      · rw [if_neg e2, if_neg (by omega)]
theorem newR_w {n u : Nat} (h1 : 1 ≤ u) (h2 : u ≤ n) : (newR n).wt.getD u false = true := by
  obtain ⟨k, rfl⟩ : ∃ k, u = k + 1 := ⟨u - 1, by omega⟩
  simp only [newR, List.getD, List.getElem?_cons_succ, List.getElem?_replicate]
  rw [if_pos (by omega)]; rfl
theorem newI_rep {n : Nat} {hp : List Nat} {pl : List Int} (H : NewI n n hp pl) (hl : hp.length = n) (pll : pl.length = n + 1) (hn : n ≤ 4194304) : Rep n hp n pl (newR n) := by
  have hh : ∀ j, j < n → hp.getD j 0 = j + 1 := fun j hj => by rw [H.h j hj, if_pos hj]
  refine ⟨RQ.Ok.new hn, ⟨hl, pll, Nat.le_refl _, fun j hj => ?_, fun u h1 h2 _ h4 => ?_, fun u h1 h2 _ => ?_⟩, fun k h0 hk _ => ?_, ?_⟩
  · rw [hh j hj, H.p (j + 1), if_pos (by omega)]
    exact ⟨by omega, by omega, by omega, newR_w (by omega) (by omega)⟩
  · rw [newR_w h1 h2] at h4; cases h4
  · exact ⟨u - 1, by omega, by rw [H.p u, if_pos ⟨h1, h2⟩]; omega, by rw [hh _ (by omega)]; omega⟩
  · have hs : ∀ v, (newR n).sc.getD v 0 = 0 := fun v => by
      simp only [newR, List.getD, List.getElem?_replicate]; split <;> rfl
    unfold hpK keyQ
    rw [hh k hk, hh _ (by omega), hs, hs]
    omega
  · simp [lenR, newR]

def NewPost (w : World) (v : Int) (e : Ending) (w' : World) : Prop :=
  if 0 ≤ v ∧ v ≤ 4194304 then ∃ q s h a, e = .returned (.tuple #[.pointer (some ⟨q, 0, none⟩), .int .i64 0]) ∧ QIs w' q s h a v.toNat (newR v.toNat) ∧ Below w.heap.size w w' ∧ (∀ D, Four q s h a D → w.heap.size ≤ D)
  else e = .returned (.tuple #[.pointer none, .int .i64 2]) ∧ w = w'

theorem ne_blocks {w : World} {g k : Nat} {C C' : Array Value} {t t' : TypeId} (hg : w.heap[g]? = some (.cells C t (0, 0))) (hk : w.heap[k]? = some (.cells C' t' (0, 0))) (h : t ≠ t' ∨ C.size ≠ C'.size) : g ≠ k := by
  intro e
  subst e
  rw [hg] at hk
  cases hk
  rcases h with h | h <;> exact h rfl

set_option maxRecDepth 100000 in
set_option maxHeartbeats 800000 in
theorem qnew_any (v : Int) (w : World) : Calls Try.prog 6 #[.int .i64 v] w (NewPost w v) := by
  by_cases h0 : 0 ≤ v ∧ v ≤ 4194304
  · obtain ⟨n, rfl⟩ := Int.eq_ofNat_of_zero_le h0.1
    have hn : n ≤ 4194304 := by omega
    have HP : Hid (∀ q s h a e w', e = Ending.returned (.tuple #[.pointer (some ⟨q, 0, none⟩), .int .i64 0]) → QIs w' q s h a n (newR n) → Below w.heap.size w w' → (∀ D, Four q s h a D → w.heap.size ≤ D) → NewPost w n e w') := by
      intro q s h a e w' h1 h2 h3 h4
      unfold NewPost
      rw [if_pos h0, Int.toNat_natCast]
      exact ⟨q, s, h, a, h1, h2, h3, h4⟩
    obtain ⟨k, hk⟩ : ∃ k, k = n + 1 := ⟨_, rfl⟩
    have W1 : IntKind.i64.wrap ((n : Int) + 1) = (k : Int) := by rw [IntWalk.i64_in _ (by omega)]; omega
    have E1 : (n : Int) + 1 = (k : Int) := by omega
    have d1 : decide ((n : Int) < 0) = false := by simp
    have d2 : decide ((4194304 : Int) < (n : Int)) = false := by simp; omega
    have d2n : decide (4194304 < n) = false := by simp; omega
    have HE1 := Lib.hid E1
    have HW1 := Lib.hid W1
    have HK := Lib.hid hk
    clear h0 E1 W1 hk
    go_enter Try.func6, Try.ntmps6
    go_upto_region 3 with fail
    refine reg_new n k hn HK.out w HW1.out HE1.out _ ?_
    intro q s h a w1 hb1 hs1 hh1 ha1 hq1 gq gs gh ga
    have hqw : QW w1 q s h a n 1 (List.replicate (n + 1) 0) (List.replicate n 0) n (List.replicate (n + 1) 0) := by
      have hk := HK.out
      subst hk
      refine ⟨ne_blocks hq1 hs1 (.inl (by decide)), ne_blocks hq1 hh1 (.inl (by decide)), ne_blocks hq1 ha1 (.inl (by decide)), ne_blocks hs1 hh1 (.inl (by decide)), ne_blocks hs1 ha1 (.inl (by decide)), ne_blocks hh1 ha1 (.inr (by rw [size_zeros, size_zeros]; omega)), hq1, ?_, ?_, ?_, by simp, by simp, by simp⟩
      · rw [hs1]; simp [zeros, u6]
      · rw [hh1]; simp [zeros, i3]
      · rw [ha1]; simp [zeros, j3]
    have HQ1 := Lib.hid hqw
    have HB1 := Lib.hid hb1
    have HG : Hid (∀ D, Four q s h a D → w.heap.size ≤ D) := by rintro D (rfl | rfl | rfl | rfl) <;> assumption
    have c2 := hqw.c2
    clear hqw hb1 hs1 hh1 ha1 hq1 gq gs gh ga
    go_wp2
    go_loopw [27] (fun iv wr => ∃ (i : Nat) (hp : List Nat) (pl : List Int), iv = .int .i64 i ∧ i ≤ n ∧ Hid (QW wr q s h a n 1 (List.replicate (n + 1) 0) hp n pl) ∧ Hid (NewI n i hp pl) ∧ Hid (Below w.heap.size w wr)) (fun iv _ => n - (intOf iv).toNat)
    case atStart => exact ⟨0, _, _, rfl, by omega, HQ1.out, newI_zero n, HB1.out⟩
    case round =>
      clear HQ1 c2
      obtain ⟨i, hp, pl, rfl, hi, hq, hI, hb⟩ := hrel
      by_cases hin : i < n
      · have e1 : decide ((i : Int) < (n : Int)) = true := by simp; omega
        have e1n : decide (i < n) = true := by simp; omega
        obtain ⟨j, hj⟩ : ∃ j, j = i + 1 := ⟨_, rfl⟩
        have W2 : IntKind.i64.wrap ((i : Int) + 1) = (j : Int) := by rw [IntWalk.i64_in _ (by omega)]; omega
        have E2 : (i : Int) + 1 = (j : Int) := by omega
        have W3 : IntKind.i32.wrap (j : Int) = (j : Int) := IntWalk.i32_in _ (by omega)
        have W4 : IntKind.i64.wrap (j : Int) = (j : Int) := IntWalk.i64_in _ (by omega)
        have hjn : j ≤ n := by omega
        have HJ := Lib.hid hj
        clear hj
        go_wp2_with fail
        refine (qput_any j i hq.out hin (Nat.le_refl _) hjn hn).mono ?_
        rintro e w2 ⟨rfl, hq2, ht2⟩
        have HQ2 := Lib.hid hq2
        have HB2 : Hid (Below w.heap.size w w2) := hb.out.trans (ht2.low hb.out.size HG.out)
        clear hq2 ht2
        go_wp2
        go_roundw
        case rel =>
          refine ⟨j, _, _, rfl, hjn, HQ2.out, ?_, HB2.out⟩
          show NewI _ _ _ _
          rw [HJ.out]
          exact newI_step hI.out hq.out.lh hq.out.lp hin
        case measure => have := HJ.out; simp [intOf]; omega
      · have e1 : decide ((i : Int) < (n : Int)) = false := by simp; omega
        have e1n : decide (i < n) = false := by simp; omega
        have HI : Hid (i = n) := by show _ = _; omega
        clear hin
        go_wp2
        go_ret2
        have hI2 := hI.out
        rw [HI.out] at hI2
        exact HP.out q s h a _ _ rfl ⟨hp, n, pl, hq.out, newI_rep hI2 hq.out.lh hq.out.lp hn⟩ hb.out HG.out
  · have HP : Hid (NewPost w v (.returned (.tuple #[.pointer none, .int .i64 2])) w) := by
      show NewPost _ _ _ _
      unfold NewPost
      rw [if_neg h0]
      exact ⟨rfl, rfl⟩
    by_cases h1 : v < 0
    · have d1 : decide (v < 0) = true := by simpa using h1
      clear h0 h1
      go_enter Try.func6, Try.ntmps6
      go_wp2
      go_ret2
      exact HP.out
    · have d1 : decide (v < 0) = false := by simpa using h1
      have d2 : decide ((4194304 : Int) < v) = true := by simp; omega
      clear h0 h1
      go_enter Try.func6, Try.ntmps6
      go_wp2
      go_ret2
      exact HP.out
end Go.Proofs.Ythedgbdnidghnaa
