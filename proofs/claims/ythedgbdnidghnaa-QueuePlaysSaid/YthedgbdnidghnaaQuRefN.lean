/- inquestref12.New, by its contract. -/
import Derived.Test.YthedgbdnidghnaaOwn
import Derived.Test.YthedgbdnidghnaaNBase
import Derived.Test.YthedgbdnidghnaaNStep
import Derived.Test.YthedgbdnidghnaaQuPure
import Derived.Test.YthedgbdnidghnaaQuW
import Derived.Test.YthedgbdnidghnaaQuReg
import Derived.Test.YthedgbdnidghnaaQuNew
import Derived.Test.YthedgbdnidghnaaQuRefW
import Derived.Test.YthedgbdnidghnaaRows
import Derived.ArgAppend
import Derived.BigQuiet
import Derived.Deep.AppendLies
import Derived.Deep.CutRange
import Derived.Deep.QuietTactic
import Derived.Deep.RegionHeld3
import Derived.Deep.RegionLaw
import Derived.Deep.RegionWith
import Derived.KernelRfl
import Derived.Laws.EntriesVeiled
import Derived.Laws.Tables
import Derived.Lib.ConvBytes
import Derived.Lib.Hide
import Derived.Lib.SlBytesRow
import Derived.Lib.SmallJoins
import Derived.Maps.AppendAt
import Derived.OrdersHeld
import Derived.Shelf.Bytes.SlSmallAll
import Derived.WalkKit
import Derived.WalkLawsBesides
import Derived.WalkSpells
namespace Go.Proofs.Ythedgbdnidghnaa
open Go Go.RowKit Go.Joins

def AnyC (_ : Value) : Prop := True
theorem info_boolQ : (Try.prog.info? 4).map (fun i => (i.zero, i.size, i.bytes)) = some (some (.bool false), 1, 1) := by kernel_rfl

/-- The scores of the first i, the marks of the first j. -/
def nSc (i : Nat) : List Value := (List.replicate i 0).map u6
def nWt (j : Nat) : List Value := (List.range j).map fun v => Value.bool (decide (0 < v))
theorem nSc_succ (i : Nat) : nSc (i + 1) = nSc i ++ [.int .u64 0] := by
  unfold nSc; rw [List.replicate_succ', List.map_append]; rfl
theorem nWt_succ (j : Nat) : nWt (j + 1) = nWt j ++ [.bool (decide (0 < j))] := by
  unfold nWt; rw [List.range_succ, List.map_append]; rfl

structure NRef (w wr : World) (p i j : Nat) (vs vw : Value) : Prop where
  low : Below w.heap.size w wr
  ge : w.heap.size ≤ p
  box : wr.heap[p]? = some (.cells #[vs, vw, .int .u64 1] 54 (0, 0))
  rs : Row AnyC wr (p + 1) 43 vs i (nSc i)
  rw_ : Row AnyC wr (p + 1) 4 vw j (nWt j)

section
variable {w wr X w2 : World} {p i j : Nat} {vs vw v2 : Value}
theorem row_set {e : TypeId} {v u : Value} {n k : Nat} {xs : List Value} (h : Row AnyC w (p + 1) e v n xs) : Row AnyC (w.setCell ⟨p, k, none⟩ u) (p + 1) e v n xs :=
  h.other fun D hD => Below.heap_setCell _ _ _ _ (fun e2 => by have := (h.own.lt D hD).1; have e3 : D = p := e2; omega)
theorem NRef.putS (H : NRef w wr p i j vs vw) (hb : Below wr.heap.size wr X) (hg : X.grownBy w2 vs.ownBlock) (r2 : Row AnyC w2 (p + 1) 43 v2 (i + 1) (nSc i ++ [.int .u64 0])) :
    w2.cell? ⟨p, 0, none⟩ = some vs ∧ w2.frozen? ⟨p, 0, none⟩ = false ∧ NRef w (w2.setCell ⟨p, 0, none⟩ v2) p (i + 1) j v2 vw := by
  have r1 := H.rs.below hb
  have b1 := heap_below H.box hb
  have b2 := heap_grown b1 hg (r1.not_own b1 (by decide))
  have k2 := row_grown (H.rw_.below hb) r1.own hg (by decide)
  refine ⟨cell_of_block b2 0, unfrozen_of_block b2 0, ?_, H.ge, ?_, ?_, row_set k2⟩
  · have hl : w.heap.size ≤ X.heap.size := Nat.le_trans H.low.size hb.size
    refine Below.setCell ?_ H.ge v2
    exact ((H.low.trans (hb.mono H.low.size)).grown hg hl (fun k hk => by have := (r1.own.lt k hk).1; have := H.ge; omega))
  · have := block_setCell b2 (i := 0) v2
    simpa using this
  · rw [nSc_succ]; exact row_set r2
theorem NRef.putW (H : NRef w wr p i j vs vw) (hb : Below wr.heap.size wr X) (hg : X.grownBy w2 vw.ownBlock) (r2 : Row AnyC w2 (p + 1) 4 v2 (j + 1) (nWt j ++ [.bool (decide (0 < j))])) :
    w2.cell? ⟨p, 1, none⟩ = some vw ∧ w2.frozen? ⟨p, 1, none⟩ = false ∧ NRef w (w2.setCell ⟨p, 1, none⟩ v2) p i (j + 1) vs v2 := by
  have r1 := H.rw_.below hb
  have b1 := heap_below H.box hb
  have b2 := heap_grown b1 hg (r1.not_own b1 (by decide))
  have k2 := row_grown (H.rs.below hb) r1.own hg (by decide)
  refine ⟨cell_of_block b2 1, unfrozen_of_block b2 1, ?_, H.ge, ?_, row_set k2, ?_⟩
  · have hl : w.heap.size ≤ X.heap.size := Nat.le_trans H.low.size hb.size
    refine Below.setCell ?_ H.ge v2
    exact ((H.low.trans (hb.mono H.low.size)).grown hg hl (fun k hk => by have := (r1.own.lt k hk).1; have := H.ge; omega))
  · have := block_setCell b2 (i := 1) v2
    simpa using this
  · rw [nWt_succ]; exact row_set r2
theorem NRef.done {n : Nat} (H : NRef w wr p (n + 1) (n + 1) vs vw) (hn : n ≤ 4194304) : ∃ gs gw cs cw, RW wr p gs gw cs cw n (newR n) ∧ (∀ D, Three p gs gw D → w.heap.size ≤ D) := by
  rcases H.rs.2 with ⟨_, h0⟩ | ⟨gs, cs, c1, rfl, hb1, hg1, hn1, hc1, hs1, ht1, _⟩
  · omega
  rcases H.rw_.2 with ⟨_, h0⟩ | ⟨gw, cw, c2, rfl, hb2, hg2, hn2, hc2, hs2, ht2, _⟩
  · omega
  have hge := H.ge
  have gsc : ∀ v, (newR n).sc.getD v 0 = 0 := fun v => by
    simp only [newR, List.getD, List.getElem?_replicate]; split <;> rfl
  refine ⟨gs, gw, cs, cw, ⟨by omega, by omega, ne_blocks hg1 hg2 (.inl (by decide)), H.box, ⟨c1, hg1, fun i hi => ?_⟩, ⟨c2, hg2, fun i hi => ?_⟩, RQ.Ok.new hn⟩, ?_⟩
  · have : (nSc (n + 1))[i]? = some (u6 0) := by
      unfold nSc; rw [List.getElem?_map, List.getElem?_replicate, if_pos (by omega)]; rfl
    rw [gsc, ← this, ← ht1, List.getElem?_take_of_lt (by omega)]
    simp
  · have e : (newR n).wt.getD i false = decide (0 < i) := by
      cases i with
      | zero => rfl
      | succ k => rw [newR_w (by omega) hi]; simp
    have : (nWt (n + 1))[i]? = some (.bool (decide (0 < i))) := by
      unfold nWt; rw [List.getElem?_map, List.getElem?_range (by omega)]; rfl
    rw [e, ← this, ← ht2, List.getElem?_take_of_lt (by omega)]
    simp
  · rintro D (rfl | rfl | rfl) <;> omega
end

def RNewPost (w : World) (v : Int) (e : Ending) (w' : World) : Prop :=
  if 0 ≤ v ∧ v ≤ 4194304 then ∃ p gs gw cs cw, e = .returned (.tuple #[.pointer (some ⟨p, 0, none⟩), .int .i64 0]) ∧ RW w' p gs gw cs cw v.toNat (newR v.toNat) ∧ Below w.heap.size w w' ∧ (∀ D, Three p gs gw D → w.heap.size ≤ D)
  else e = .returned (.tuple #[.pointer none, .int .i64 2]) ∧ w = w'

set_option maxRecDepth 100000 in
set_option maxHeartbeats 1600000 in
theorem rnew12_any (v : Int) (w : World) : Calls Try.prog 7 #[.int .i64 v] w (RNewPost w v) := by
  obtain ⟨i1, hi1, hz11, hz12, hz13⟩ := info_parts info_u64
  obtain ⟨i2, hi2, hz21, hz22, hz23⟩ := info_parts info_boolQ
  by_cases h0 : 0 ≤ v ∧ v ≤ 4194304
  · obtain ⟨n, rfl⟩ := Int.eq_ofNat_of_zero_le h0.1
    have hn : n ≤ 4194304 := by omega
    have HP : Hid (∀ p gs gw cs cw e w', e = Ending.returned (.tuple #[.pointer (some ⟨p, 0, none⟩), .int .i64 0]) → RW w' p gs gw cs cw n (newR n) → Below w.heap.size w w' → (∀ D, Three p gs gw D → w.heap.size ≤ D) → RNewPost w n e w') := by
      intro p gs gw cs cw e w' h1 h2 h3 h4
      unfold RNewPost
      rw [if_pos h0, Int.toNat_natCast]
      exact ⟨p, gs, gw, cs, cw, h1, h2, h3, h4⟩
    have d1 : decide ((n : Int) < 0) = false := by simp
    have d2 : decide ((4194304 : Int) < (n : Int)) = false := by simp; omega
    have d2n : decide (4194304 < n) = false := by simp; omega
    obtain ⟨p, hp⟩ : ∃ p, p = w.heap.size := ⟨_, rfl⟩
    have H1 : Hid (NRef w (w.alloc (.cells #[.slice none 0 0, .slice none 0 0, .int .u64 1] 54)) p 0 0 (.slice none 0 0) (.slice none 0 0)) :=
      ⟨ext_alloc _ _, by omega, heap_new w _ p hp, Row.nil _ _ _ _, Row.nil _ _ _ _⟩
    have HPP := Lib.hid hp
    clear h0 hp
    go_enter Try.func7, Try.ntmps7
    go_wp2
    rw [← HPP.out]
    go_loopw [5] (fun iv wr => ∃ (i : Nat) (vs vw : Value), iv = .int .i64 i ∧ i ≤ n + 1 ∧ Hid (NRef w wr p i i vs vw)) (fun iv _ => n + 1 - (intOf iv).toNat)
    case atStart => exact ⟨0, _, _, rfl, by omega, H1.out⟩
    case round =>
      clear H1
      obtain ⟨i, vs, vw, rfl, hi, hN⟩ := hrel
      by_cases hin : i ≤ n
      · have e1 : decide ((i : Int) ≤ (n : Int)) = true := by simp; omega
        have e1n : decide (i ≤ n) = true := by simp; omega
        have W1 : IntKind.i64.wrap ((i : Int) + 1) = (i : Int) + 1 := IntWalk.i64_in _ (by omega)
        have m1 : i + 1 ≤ maxLen := by unfold maxLen; omega
        have m2 : (i + 1) * 8 ≤ 140737488355328 := by omega
        have m3 : (i + 1) * 1 ≤ 140737488355328 := by omega
        obtain ⟨a1, c1, rfl⟩ := hN.out.rs.form
        obtain ⟨a2, c2, rfl⟩ := hN.out.rw_.form
        have b0 := (cell_of_block hN.out.box 0).trans (show _ = some (Value.slice a1 i c1) from rfl)
        have g1 : p + 1 ≤ (wr.alloc (.cells #[.int .u64 0] 43)).heap.size := by
          have := heap_lt hN.out.box; rw [World.size_alloc]; omega
        have HR1 := Lib.hid (hN.out.rs.below (ext_alloc wr (.cells #[.int .u64 0] 43)))
        have HS1 := Lib.hid (sees_lit wr 43 (0, 0) #[.int .u64 0] [.int .u64 0] 1 rfl rfl)
        go_wp2_with (at_builtin; refine wpList_append_row AnyC _ rfl _ _ 46 rfl (p + 1) 43 i1 (.int .u64 0) 8 Try.underlying46 hi1 hz11 hz12 hz13 rfl trivial _ _ _ rfl HR1.out (some ⟨wr.heap.size, 0, none⟩) 1 1 [.int .u64 0] rfl HS1.out (by intro u hu; simp at hu; subst hu; rfl) (fun _ _ => trivial) m1 m2 g1 ?_)
        intro v2 w2 r2 hg2 _
        obtain ⟨a3, c3, rfl⟩ := r2.form
        obtain ⟨x1, x2, x3⟩ := hN.out.putS (ext_alloc _ _) hg2 r2
        have HN2 := Lib.hid x3
        clear hg2 r2 x3 HR1 HS1 g1 b0 hN
        have b1 := (cell_of_block HN2.out.box 1).trans (show _ = some (Value.slice a2 i c2) from rfl)
        have g2 : p + 1 ≤ ((w2.setCell ⟨p, 0, none⟩ (.slice a3 (i + 1) c3)).alloc (.cells #[.bool (decide (0 < i))] 4)).heap.size := by
          have := heap_lt HN2.out.box; rw [World.size_alloc]; omega
        have HR2 := Lib.hid (HN2.out.rw_.below (ext_alloc (w2.setCell ⟨p, 0, none⟩ (.slice a3 (i + 1) c3)) (.cells #[.bool (decide (0 < i))] 4)))
        have HS2 := Lib.hid (sees_lit (w2.setCell ⟨p, 0, none⟩ (.slice a3 (i + 1) c3)) 4 (0, 0) #[.bool (decide (0 < i))] [.bool (decide (0 < i))] 1 rfl rfl)
        rw [World.size_setCell] at HS2
        go_wp2_with (at_builtin; refine wpList_append_row AnyC _ rfl _ _ 52 rfl (p + 1) 4 i2 (.bool false) 1 Try.underlying52 hi2 hz21 hz22 hz23 rfl trivial _ _ _ rfl HR2.out (some ⟨w2.heap.size, 0, none⟩) 1 1 [.bool (decide (0 < i))] rfl HS2.out (by intro u hu; simp at hu; subst hu; rfl) (fun _ _ => trivial) m1 m3 g2 ?_)
        intro v4 w4 r4 hg4 _
        obtain ⟨a5, c5, rfl⟩ := r4.form
        obtain ⟨x3, x4, x5⟩ := HN2.out.putW (ext_alloc _ _) hg4 r4
        have HN4 := Lib.hid x5
        clear hg4 r4 x5 HR2 HS2 g2 b1 x1 x2 HN2
        go_wp2
        go_roundw
        case rel => exact ⟨i + 1, _, _, by go_num, by omega, HN4.out⟩
        case measure => simp [intOf]; omega
      · have e1 : decide ((i : Int) ≤ (n : Int)) = false := by simp; omega
        have e1n : decide (i ≤ n) = false := by simp; omega
        have HI : Hid (i = n + 1) := by show _ = _; omega
        clear hin
        go_wp2
        go_ret2
        have hN2 := hN.out
        rw [HI.out] at hN2
        obtain ⟨gs, gw, cs, cw, h1, h2⟩ := hN2.done hn
        exact HP.out p gs gw cs cw _ _ rfl h1 hN2.low h2
  · have HP : Hid (RNewPost w v (.returned (.tuple #[.pointer none, .int .i64 2])) w) := by
      show RNewPost _ _ _ _
      unfold RNewPost
      rw [if_neg h0]
      exact ⟨rfl, rfl⟩
    clear hi1 hz11 hz12 hz13 hi2 hz21 hz22 hz23
    by_cases h1 : v < 0
    · have d1 : decide (v < 0) = true := by simpa using h1
      clear h0 h1
      go_enter Try.func7, Try.ntmps7
      go_wp2
      go_ret2
      exact HP.out
    · have d1 : decide (v < 0) = false := by simpa using h1
      have d2 : decide ((4194304 : Int) < v) = true := by simp; omega
      clear h0 h1
      go_enter Try.func7, Try.ntmps7
      go_wp2
      go_ret2
      exact HP.out
end Go.Proofs.Ythedgbdnidghnaa
