/- vcd.Write, by its contract. -/
import Derived.Test.YtgplkpfdbiapaaaGreatDoorLib
import Derived.Test.YtgplkpfdbiapaaaGreatDoorOwn
import Derived.Test.YtgplkpfdbiapaaaGreatDoorGA3
import Derived.Test.YtgplkpfdbiapaaaGreatDoorNBase
import Derived.Test.YtgplkpfdbiapaaaGreatDoorGA1
import Derived.Test.YtgplkpfdbiapaaaGreatDoorNHeap
import Derived.Test.YtgplkpfdbiapaaaGreatDoorGA4
import Derived.Test.YtgplkpfdbiapaaaGreatDoorGB
import Derived.Test.YtgplkpfdbiapaaaGreatDoorSRun
import Derived.Test.YtgplkpfdbiapaaaGreatDoorGD1
import Derived.Test.YtgplkpfdbiapaaaGreatDoorGE2
import Derived.Test.YtgplkpfdbiapaaaGreatDoorGF1
import Derived.Test.YtgplkpfdbiapaaaGreatDoorVdSpec
import Derived.Test.YtgplkpfdbiapaaaGreatDoorGG
import Derived.Test.YtgplkpfdbiapaaaGreatDoorGH
import Derived.Test.YtgplkpfdbiapaaaGreatDoorGI1
import Derived.Test.YtgplkpfdbiapaaaGreatDoorGI2
import Derived.Test.YtgplkpfdbiapaaaGreatDoorGJ
import Derived.Test.YtgplkpfdbiapaaaGreatDoorRows
import Derived.Test.YtgplkpfdbiapaaaGreatDoorShelf
import Derived.Test.YtgplkpfdbiapaaaGreatDoorShelf2
import Derived.BigQuiet
import Derived.BigRegion
import Derived.Deep.AppendLies
import Derived.Deep.CutRange
import Derived.Deep.QuietTactic
import Derived.Deep.RegionHeld3
import Derived.Deep.RegionLaw
import Derived.Deep.RegionWith
import Derived.KernelRfl
import Derived.Laws.Bits64b
import Derived.Laws.BitsAllLaws
import Derived.Laws.BitsLemmas
import Derived.Laws.CopyOwn
import Derived.Laws.EntriesVeiled
import Derived.Laws.IdiomCopy
import Derived.Laws.OwnMore
import Derived.Laws.Runes
import Derived.Laws.Tables
import Derived.Lib.AppendIntMem
import Derived.Lib.AppendStr
import Derived.Lib.AppendZeros
import Derived.Lib.BufferWrite
import Derived.Lib.ConvBytes
import Derived.Lib.DecodeN
import Derived.Lib.Hide
import Derived.Lib.Index
import Derived.Lib.IndexEntry
import Derived.Lib.ItoaNum
import Derived.Lib.Join
import Derived.Lib.MakeNoZero
import Derived.Lib.ParseIntBCases
import Derived.Lib.SlBytesRow
import Derived.Lib.SmallJoins
import Derived.LoopIn
import Derived.LoopNIn
import Derived.Maps.AppendAt
import Derived.Maps.Own
import Derived.Maps.OwnOps
import Derived.Maps.OwnSet
import Derived.OrdersHeld
import Derived.OrdersIn
import Derived.OwnWalkIn
import Derived.RangeFuncBox
import Derived.RangeFuncCalls
import Derived.RangeFuncLeaves
import Derived.RangeFuncNested
import Derived.RangeFuncWrites
import Derived.Shelf.Abstract
import Derived.Shelf.Bytes.SlSmallAll
import Derived.Shelf.Pu.Lower
import Derived.Shelf.Pu.ToError
import Derived.Shelf.Pu.ToErrorRange
import Derived.Shelf.RegionOpen
import Derived.Shelf.Spec.DecodeRune
import Derived.Shelf.Unicode.DecodeSlow
import Derived.Sort.CutIn
import Derived.Stop.RegionWithIn
import Derived.TacticsInMore
import Derived.WalkKit
import Derived.WalkLawsBesides
import Derived.WalkSpells
namespace Go.Proofs.YtgplkpfdbiapaaaGreatDoor
open Go Go.RowKit Go.Joins Go.Shelf Go.Maps

def runRows (c : NormC) (t : TraceC) : List (List UInt8) := (List.range t.frames.length).map (varsAt c t)
theorem runRows_at (c : NormC) (t : TraceC) (k : Nat) (h : k < t.frames.length) : (runRows c t).getD k [] = varsAt c t k := by
  unfold runRows
  simp [List.getD, List.getElem?_range h]
theorem run_sees {c : NormC} {t : TraceC} {w w' : World} {e : Ending} (h : RunPost c t w e w') (hf : fitsS c t = true) : ∃ a cc ss, e = .returned (.tuple #[.slice a t.frames.length cc, .int .i64 0]) ∧ SeesF w' a t.frames.length cc ss (runRows c t) ∧ Below w.heap.size w w' := by
  obtain ⟨v, ss, rfl, hl, hrow, hrows⟩ := h.1 hf
  obtain ⟨a, cc, rfl, _, hs⟩ := Sees.owned hrow
  refine ⟨a, cc, ss, rfl, ⟨hs, by unfold runRows; simp [hl], fun k hk => ?_⟩, h.2.2⟩
  have hk2 : k < t.frames.length := by unfold runRows at hk; simpa using hk
  rw [runRows_at c t k hk2]
  obtain ⟨x, y, ex, _, hx⟩ := (hrows k hk2).sees
  have ex2 : Value.slice (ss.getD k slc0).1 (ss.getD k slc0).2.1 (ss.getD k slc0).2.2 = .slice x (varsAt c t k).length y := ex
  injection ex2 with e1 e2 e3
  rw [e1, e2, e3]
  exact hx
/-- The table of the digits. -/
def DigEnv (w : World) : Prop := ∀ v : UInt8, v.toNat ≤ 2 → w.cell? ⟨0, v.toNat, none⟩ = some (bv (digV v))
theorem DigEnv.below {w W : World} (h : DigEnv w) (hb : Below w.heap.size w W) : DigEnv W := fun v hv => (hb.cell (lt_of_cellV (h v hv))).trans (h v hv)
/-- What Write answers. -/
def WritePost (c : NormC) (t : TraceC) (w : World) (e : Ending) (w' : World) : Prop :=
  (fitsS c t = true → ∃ v, e = .returned (.tuple #[v, .int .i64 0]) ∧ w'.ownsRow w.heap.size 5 1 v (fileT c t).length ((fileT c t).map bv)) ∧
  (fitsS c t = false → e = .returned (.tuple #[.slice none 0 0, .int .i64 2])) ∧ Below w.heap.size w w'
theorem cells_list (w : World) (ws : List (List UInt8)) (t : TypeId) (C : Array Value) (hC : C = (ws.map sv).toArray) : ∀ (j : Nat) x, ws[j]? = some x → (w.alloc (.cells C t)).cell? ⟨w.heap.size, j, none⟩ = some (sv x) := by
  intro j x hj
  rw [cell_of_block (heap_new w _ _ rfl) j, hC]
  simp [hj]
/-- A line of a new list of words. -/
theorem line_new (B : Nat) (W : World) (cur : List UInt8) (ws : List (List UInt8)) (C : Array Value) (n : Nat) (g : Nat) (hC : C = (ws.map sv).toArray) (hn : n = ws.length) (hg : g = W.heap.size) (hB : BufW B B W cur) (hn2 : n ≤ 1000) (hlen : (lineW ws).length ≤ 1000000) (hcur : cur.length ≤ 100000000000) (hbase : B ≤ W.heap.size) :
    Calls Tryz.prog 17 #[.slice (some ⟨g, 0, none⟩) n n, .pointer (some ⟨B, 0, .none⟩)] (W.alloc (.cells C 9)) fun e w' => e = .returned (.tuple #[]) ∧ BufW B B w' (cur ++ lineW ws) ∧ Below B W w' ∧ KeptW B W w' := by
  subst hn hg
  have hx := ext_alloc W (.cells C 9)
  refine (line_any B B cur ws W.heap.size ws.length (W.alloc (.cells C 9)) (hB.below hx) (cells_list W ws _ C hC) (by simp) hn2 (Nat.le_refl _) hlen hcur (Nat.le_trans hbase hx.size) (Nat.le_refl _)).mono ?_
  rintro e w' ⟨h1, h2, h3, h4⟩
  exact ⟨h1, h2, (hx.mono hbase).trans h3, fun D C' t fr hD ht hDg => h4 D C' t fr (heap_below hD hx) ht hDg⟩
theorem sig_cells {W : World} {base n c : Nat} {a : Option Addr} {L : List (List UInt8 × Nat)} (h : W.ownsRow base 55 2 (.slice a n c) L.length (sigC L)) {k : Nat} (hk : k < L.length) :
    ∃ V, a = some ⟨V, 0, none⟩ ∧ W.cell? ⟨V, k * 2, none⟩ = some (.string (str (L.getD k ([], 0)).1)) ∧ W.cell? ⟨V, k * 2 + 1, none⟩ = some (.int .u32 ((L.getD k ([], 0)).2 : Int)) := by
  rcases h.2 with ⟨e, e0⟩ | ⟨g, cap, cur, e, hg, hh, _, _, _, ht⟩
  · omega
  · cases e
    have hat := sigC_at L k hk
    have hl := sigC_len L
    have hcur : ∀ (j : Nat) (u : Value), j < L.length * 2 → (sigC L)[j]? = some u → cur[j]? = some u := fun j u hj hu => by
      rw [← ht, List.getElem?_take_of_lt hj] at hu
      simpa using hu
    refine ⟨g, rfl, ?_, ?_⟩
    · rw [cell_of_block hh, Nat.mul_comm]; exact hcur _ _ (by omega) hat.1
    · rw [cell_of_block hh, Nat.mul_comm]; exact hcur _ _ (by omega) hat.2
theorem buf_store {B : Nat} {W : World} {v v2 : Value} {cur : List UInt8} (hv : W.heap[B]? = some (.cells #[v] 27 (0, 0))) (hr : W.ownsRow B 5 1 v2 cur.length (cur.map bv)) : BufW B B (W.setCell ⟨B, 0, .none⟩ v2) cur := by
  have r2 := Row.ofOwnsB hr
  refine ⟨v2, block_setCell hv v2, Row.other r2 fun k hk => ?_⟩
  exact Below.heap_setCell W ⟨B, 0, .none⟩ v2 k (fun e => (anyrow_not_own r2 hv (by decide)) (by rw [hk, e]))
set_option maxRecDepth 100000 in
set_option maxHeartbeats 25600000 in
theorem write10_any (c : NormC) (t : TraceC) (s : CSlots) (st : TSlots) (w : World) (h : SeesCir w s c) (ht : SeesTr w st t) (hs : s.small) (hst : st.small) (hlo : -9223372036854775808 ≤ c.ins) (hhi : c.ins < 9223372036854775808) (hb1 : -9223372036854775808 ≤ t.bad ∧ t.bad < 9223372036854775808) (htab : TabV w) (hdig : DigEnv w) :
    Calls Tryz.prog 5 #[cirV c.ins s, traceV t.bad st] w (WritePost c t w) := by
  have HRUN := Lib.hid (fun W (hb : Below w.heap.size w W) => run_any2 c t s st W (h.below hb) (ht.below hb) hs hst hlo hhi hb1)
  have HSIG := Lib.hid (fun W (hb : Below w.heap.size w W) (hm : MayC c) => signals_any c s W (h.below hb) hm hs (htab.below hb))
  have HTAB := Lib.hid htab
  have HDIG := Lib.hid hdig
  obtain ⟨q, hq⟩ : ∃ q, q = fitsS c t := ⟨_, rfl⟩
  have HQ := Lib.hid hq
  clear h ht hs hst hlo hhi hb1 htab hdig hq
  unfold cirV at HSIG
  unfold cirV traceV at HRUN ⊢
  go_enter Tryz.func5, Tryz.ntmps5
  go_upto_region 1 with fail
  generalize hW : World.alloc (World.alloc w _) _ = W1
  have hlow : Below w.heap.size w W1 := by subst hW; exact ext_trans (ext_alloc _ _) (ext_alloc _ _)
  have hbc : W1.heap[w.heap.size]? = some (.cells #[.int .i64 c.ins, .slice s.a1 s.n1 s.c1, .slice s.a2 s.n2 s.c2, .slice s.a3 s.n3 s.c3, .slice s.a4 s.n4 s.c4, .slice s.a5 s.n5 s.c5] 26 (0, 0)) := by subst hW; exact heap_below (heap_new _ _ _ rfl) (ext_alloc _ _)
  have hbt : W1.heap[w.heap.size + 1]? = some (.cells #[.int .i64 t.bad, .slice st.a1 st.n1 st.c1, .slice st.a2 st.n2 st.c2] 30 (0, 0)) := by subst hW; exact heap_new _ _ _ (by simp)
  obtain ⟨x0, hx0⟩ : ∃ x, x = c.ins := ⟨_, rfl⟩
  rw [← hx0] at hbc HRUN HSIG
  have k0 : W1.cell? ⟨w.heap.size, 0, none⟩ = some (.int .i64 x0) := cell_of_block hbc 0
  have k1 : W1.cell? ⟨w.heap.size, 1, none⟩ = some (.slice s.a1 s.n1 s.c1) := cell_of_block hbc 1
  have k2 : W1.cell? ⟨w.heap.size, 2, none⟩ = some (.slice s.a2 s.n2 s.c2) := cell_of_block hbc 2
  have k3 : W1.cell? ⟨w.heap.size, 3, none⟩ = some (.slice s.a3 s.n3 s.c3) := cell_of_block hbc 3
  have k4 : W1.cell? ⟨w.heap.size, 4, none⟩ = some (.slice s.a4 s.n4 s.c4) := cell_of_block hbc 4
  have k5 : W1.cell? ⟨w.heap.size, 5, none⟩ = some (.slice s.a5 s.n5 s.c5) := cell_of_block hbc 5
  have j0 : W1.cell? ⟨w.heap.size + 1, 0, none⟩ = some (.int .i64 t.bad) := cell_of_block hbt 0
  have j1 : W1.cell? ⟨w.heap.size + 1, 1, none⟩ = some (.slice st.a1 st.n1 st.c1) := cell_of_block hbt 1
  have j2 : W1.cell? ⟨w.heap.size + 1, 2, none⟩ = some (.slice st.a2 st.n2 st.c2) := cell_of_block hbt 2
  have HLOW := Lib.hid hlow
  have HBC := Lib.hid hbc
  clear hlow hW hbt hbc hx0
  go_wp2_with fail
  refine (HRUN.out _ HLOW.out).mono ?_
  intro e w2 hp
  cases q with
  | false =>
    obtain ⟨_, h2, h3⟩ := hp
    have he := h2 HQ.out.symm
    subst he
    have HE : Hid (WritePost c t w (.returned (.tuple #[.slice none 0 0, .int .i64 2])) w2) := ⟨(fun hf => by rw [← HQ.out] at hf; cases hf), (fun _ => rfl), ext_trans HLOW.out h3⟩
    clear h2 h3 HRUN HSIG
    go_wp2
    go_ret2
    exact HE.out
  | true =>
    obtain ⟨ra, rc, ss, rfl, hss, hb2⟩ := run_sees hp HQ.out.symm
    have hfit := fits_iff.1 HQ.out.symm
    have hmay := hfit.may
    obtain ⟨N, hN⟩ : ∃ N, N = t.frames.length := ⟨_, rfl⟩
    have hN256 : N ≤ 256 := by rw [hN]; exact hfit.few
    have hNf : (runRows c t).length = N := by unfold runRows; simp [hN]
    rw [← hN] at hss ⊢
    obtain ⟨S, hS⟩ : ∃ S, S = sigL c := ⟨_, rfl⟩
    obtain ⟨M, hM⟩ : ∃ M, M = S.length := ⟨_, rfl⟩
    have hM2 : M ≤ 17408 := by rw [hM, hS, sig_many]; have := hmay.few; have := hmay.lens.2.1; omega
    have hshort : ∀ x ∈ S, x.1.length ≤ 8 := by rw [hS]; exact sig_short c hmay
    have hlit : ∀ x ∈ S, x.2 < 4294967296 := by rw [hS]; exact sig_lit c hmay
    obtain ⟨val, hval⟩ : ∃ val, val = valT c t := ⟨_, rfl⟩
    have hfile : fileT c t = fileW val S N := by unfold fileT; rw [hval, hS, hN]
    have hvals : ∀ f lit, f < N → val f lit = valueL ((runRows c t).getD f []) lit := fun f lit hf => by
      rw [hval, runRows_at c t f (by omega)]
      rfl
    have hle : ∀ f lit, (val f lit).toNat ≤ 2 := fun f lit => by rw [hval]; exact value_le _ _
    have hposts : ∀ (v : Value) (w' : World), w'.ownsRow w.heap.size 5 1 v (fileW val S N).length ((fileW val S N).map bv) → Below w.heap.size w w' → WritePost c t w (.returned (.tuple #[v, .int .i64 0])) w' := fun v w' h1 h2 =>
      ⟨(fun _ => ⟨v, rfl, by rw [hfile]; exact h1⟩), (fun hf => by rw [← HQ.out] at hf; cases hf), h2⟩
    have HPOST := Lib.hid hposts
    have HM := Lib.hid hM
    have HNF := Lib.hid hNf
    have HSHORT := Lib.hid hshort
    have HLIT := Lib.hid hlit
    have HVALS := Lib.hid hvals
    have HLE := Lib.hid hle
    have hsig := HSIG.out w2 (ext_trans HLOW.out hb2) hmay
    rw [← hS, ← hM] at hsig
    have HSG := Lib.hid hsig
    have HSS := Lib.hid hss
    have HB2 := Lib.hid hb2
    have hbc2 := heap_below HBC.out hb2
    have k0 : w2.cell? ⟨w.heap.size, 0, none⟩ = some (.int .i64 x0) := cell_of_block hbc2 0
    have k1 : w2.cell? ⟨w.heap.size, 1, none⟩ = some (.slice s.a1 s.n1 s.c1) := cell_of_block hbc2 1
    have k2 : w2.cell? ⟨w.heap.size, 2, none⟩ = some (.slice s.a2 s.n2 s.c2) := cell_of_block hbc2 2
    have k3 : w2.cell? ⟨w.heap.size, 3, none⟩ = some (.slice s.a3 s.n3 s.c3) := cell_of_block hbc2 3
    have k4 : w2.cell? ⟨w.heap.size, 4, none⟩ = some (.slice s.a4 s.n4 s.c4) := cell_of_block hbc2 4
    have k5 : w2.cell? ⟨w.heap.size, 5, none⟩ = some (.slice s.a5 s.n5 s.c5) := cell_of_block hbc2 5
    clear hp hss hb2 hfit hmay hN hNf hS hM hshort hlit hval hfile hvals hle hposts hsig hbc2 HRUN HSIG HQ HBC
    go_wp2_with fail
    refine HSG.out.mono ?_
    rintro e w3 ⟨gv, rfl, hgr, hb3⟩
    obtain ⟨ga, gc, rfl⟩ := ownsN_form hgr
    have HGR := Lib.hid hgr
    have HLOW3 : Hid (Below w.heap.size w w3) := ext_trans (ext_trans HLOW.out HB2.out) hb3
    have HSS3 := Lib.hid (HSS.out.below hb3)
    have hs13 := hb3.size
    clear hgr hb3 HSG HSS HB2 HLOW k0 k1 k2 k3 k4 k5
    obtain ⟨B, hB⟩ : ∃ B, B = w3.heap.size := ⟨_, rfl⟩
    have HBB := Lib.hid hB
    have hs3 : w.heap.size ≤ B := by rw [hB]; exact HLOW3.out.size
    have hbuf0 : BufW B B (w3.alloc (.cells #[.slice none 0 0] 27)) [] := ⟨.slice none 0 0, heap_new _ _ _ hB, Row.nil _ _ _ _⟩
    have hl0 := line_new B (w3.alloc (.cells #[.slice none 0 0] 27)) [] [kScope, kModule, kInquest, kEnd] (([kScope, kModule, kInquest, kEnd].map sv).toArray) 4 (w3.heap.size + 1) rfl rfl (by simp) hbuf0 (by omega) (by decide) (Nat.zero_le _) (by rw [hB]; exact (ext_alloc w3 _).size)
    rw [List.nil_append] at hl0
    obtain ⟨hd0, hhd0⟩ : ∃ x, x = lineW [kScope, kModule, kInquest, kEnd] := ⟨_, rfl⟩
    rw [← hhd0, hB] at hl0
    have HL0 := Lib.hid hl0
    have HHD0 := Lib.hid hhd0
    clear hbuf0 hl0 hhd0 hB
    go_wp2_with fail
    refine HL0.out.mono ?_
    rintro e w4 ⟨rfl, hb4, hl4, _⟩
    rw [← HBB.out] at hb4 hl4 ⊢
    have HB4 : Hid (BufW B B w4 (hd0 ++ ((S.take 0).map varW).flatten)) := by
      unfold Hid
      rw [List.take_zero, List.map_nil, List.flatten_nil, List.append_nil]
      exact hb4
    have hx3 := ext_alloc w3 (.cells #[.slice none 0 0] 27)
    rw [← HBB.out] at hx3
    have HL4 : Hid (Below B w3 w4) := hx3.trans hl4
    clear hb4 hl4 hx3 HL0
    go_wp2
    go_loopg [12, 35] M (fun g _ kv wr => ∃ k : Nat, k + g = M ∧ kv = .int .i64 k ∧ Hid (BufW B B wr (hd0 ++ ((S.take k).map varW).flatten)) ∧ Hid (Below B w3 wr))
    case atStart => exact ⟨0, by omega, rfl, HB4.out, HL4.out⟩
    case round =>
      obtain ⟨k, hk, rfl, hb, hl⟩ := hrel
      have HB5 := Lib.hid hb.out
      have HL5 := Lib.hid hl.out
      clear hb hl HB4 HL4
      cases gk with
      | zero =>
        obtain rfl : M = k := by omega
        have hend1 : hd0 ++ ((S.take M).map varW).flatten ++ lineW [kUpscope, kEnd] ++ lineW [kEnddef, kEnd] = headW S := by rw [HHD0.out, HM.out, List.take_length]; rfl
        have hhl := head_len S HSHORT.out
        rw [← HM.out] at hhl
        obtain ⟨c1, hc1⟩ : ∃ c1, c1 = hd0 ++ ((S.take M).map varW).flatten := ⟨_, rfl⟩
        obtain ⟨hd, hhd⟩ : ∃ hd, hd = headW S := ⟨_, rfl⟩
        rw [← hc1] at HB5 hend1
        rw [← hhd] at hend1 hhl
        have hcl1 : c1.length ≤ 1000000 := by
          have := congrArg List.length hend1
          rw [List.length_append, List.length_append] at this
          omega
        have hcl2 : (c1 ++ lineW [kUpscope, kEnd]).length ≤ 1000000 := by
          have := congrArg List.length hend1
          rw [List.length_append] at this
          omega
        have hbs : B ≤ wr.heap.size := by have := HL5.out.size; have := HBB.out; omega
        have hl6 := line_new B wr c1 [kUpscope, kEnd] #[.string ⟨#[36, 117, 112, 115, 99, 111, 112, 101]⟩, .string ⟨#[36, 101, 110, 100]⟩] 2 wr.heap.size rfl rfl rfl HB5.out (by omega) (by decide) (by omega) hbs
        have HL6 := Lib.hid hl6
        have HEND1 := Lib.hid hend1
        have HHD := Lib.hid hhd
        clear hl6 hend1 hhd hc1 HB5 HHD0
        go_wp2_with fail
        refine HL6.out.mono ?_
        rintro e w6 ⟨rfl, hb6, hlo6, _⟩
        have HL7 : Hid (Below B w3 w6) := HL5.out.trans hlo6
        have hbs6 : B ≤ w6.heap.size := Nat.le_trans hbs hlo6.size
        have hl7 := line_new B w6 (c1 ++ lineW [kUpscope, kEnd]) [kEnddef, kEnd] #[.string ⟨#[36, 101, 110, 100, 100, 101, 102, 105, 110, 105, 116, 105, 111, 110, 115]⟩, .string ⟨#[36, 101, 110, 100]⟩] 2 w6.heap.size rfl rfl rfl hb6 (by omega) (by decide) (by omega) hbs6
        rw [HEND1.out] at hl7
        have HL8 := Lib.hid hl7
        clear hb6 hlo6 hl7 HL6 HL5 HEND1
        go_wp2_with fail
        refine HL8.out.mono ?_
        rintro e w8 ⟨rfl, hb8, hlo8, _⟩
        have HL9 : Hid (Below B w3 w8) := HL7.out.trans hlo8
        have HB8 : Hid (BufW B B w8 (hd ++ bodyW val S 0)) := by
          unfold Hid
          rw [show bodyW val S 0 = [] from rfl, List.append_nil]
          exact hb8
        have HTB : Hid (∀ W, Below B w3 W → Lib.TabBelow Tryz.prog B W "internal/strconv.uint64pow10" .u64 Lib.pow10Tab) := fun W h W' h' => HTAB.out.below (HLOW3.out.trans ((h.trans h').mono hs3))
        have hcurb : ∀ f, f ≤ N → (hd ++ bodyW val S f).length ≤ 100000000 := fun f hf => by
          have h1 := body_len val S f (by omega) HSHORT.out
          rw [← HM.out] at h1
          have h2 : (9 + 10 * M) * f ≤ (9 + 10 * M) * 256 := Nat.mul_le_mul (Nat.le_refl _) (by omega)
          rw [List.length_append]
          omega
        have HCURB := Lib.hid hcurb
        clear hb8 hlo8 HL8 HL7 hcurb hcl1 hcl2 hhl
        go_wp2
        go_loopg [13, 14, 16, 17, 55] N (fun g _ _ _ _ fv wq => ∃ f : Nat, f + g = N ∧ fv = .int .i64 f ∧ Hid (BufW B B wq (hd ++ bodyW val S f)) ∧ Hid (Below B w3 wq))
        case atStart => exact ⟨0, by omega, rfl, HB8.out, HL9.out⟩
        case round =>
          obtain ⟨f, hf, rfl, hb, hl⟩ := hrel
          have HB5 := Lib.hid hb.out
          have HL5 := Lib.hid hl.out
          clear hb hl HB8 HL9
          obtain ⟨v, hv, hrow⟩ := HB5.out
          obtain ⟨va, vc, rfl⟩ := hrow.form
          have hcb := HCURB.out f (by omega)
          obtain ⟨C1, hC1⟩ : ∃ C1, C1 = hd ++ bodyW val S f := ⟨_, rfl⟩
          rw [← hC1] at hv hrow hcb HB5
          obtain ⟨cl, hcl⟩ : ∃ cl, cl = C1.length := ⟨_, rfl⟩
          rw [← hcl] at hv hrow hcb
          have hv0 : wr.cell? ⟨B, 0, none⟩ = some (.slice va cl vc) := cell_of_block hv 0
          have HV := Lib.hid hv
          have HC1 := Lib.hid hC1
          have HCL := Lib.hid hcl
          have hbs9 : B ≤ wr.heap.size := by have := HL5.out.size; have := HBB.out; omega
          have hat := atime_any B C1 cl f (.slice va cl vc) wr hrow.own hcl (by omega) (by omega) hbs9 (HTB.out wr HL5.out)
          have HAT := Lib.hid hat
          clear hv hrow hC1 hcl hat
          cases gk with
          | zero =>
            obtain rfl : N = f := by omega
            go_wp2_with fail
            refine HAT.out.mono ?_
            rintro e w9 ⟨v9, rfl, hr9, hlo9, _⟩
            obtain ⟨v9a, v9c, rfl⟩ := ownsN_form hr9
            have HE : Hid (WritePost c t w (.returned (.tuple #[.slice v9a (C1 ++ timeW N).length v9c, .int .i64 0])) w9) := by
              refine HPOST.out _ _ ?_ (HLOW3.out.trans ((HL5.out.trans hlo9).mono hs3))
              have := ownsN_base hr9 hs3
              rw [HC1.out, HHD.out] at this ⊢
              exact this
            obtain ⟨fl, hfl⟩ : ∃ fl, fl = (C1 ++ timeW N).length := ⟨_, rfl⟩
            rw [← hfl] at HE ⊢
            clear hr9 hlo9 HAT hfl
            go_wp2
            go_ret2
            exact HE.out
          | succ g =>
            have hfN : f < N := by omega
            have hfz : (f : Int) < (N : Int) := by omega
            have hss5 := HSS3.out.below (w' := wr) (by rw [← HBB.out]; exact HL5.out)
            obtain ⟨rb, ro, rfl, _⟩ := hss5.row.addr (by omega)
            have hcx := hss5.cellAt f hfN
            have hsx := hss5.each f (by rw [HNF.out]; exact hfN)
            obtain ⟨x, hx⟩ : ∃ x : Slc, x = ss.getD f slc0 := ⟨_, rfl⟩
            rw [← hx] at hcx hsx
            obtain ⟨xa, xn, xc⟩ := x
            simp only at hcx hsx
            have HX := Lib.hid hx
            have HSX := Lib.hid hsx
            have WF : IntKind.i64.wrap ((f : Int) + 1) = ((f + 1 : Nat) : Int) := by rw [IntWalk.i64_in _ (by omega)]; omega
            clear hx hsx hss5
            go_wp2_with fail
            refine HAT.out.mono ?_
            rintro e w9 ⟨v9, rfl, hr9, hlo9, hk9⟩
            obtain ⟨v9a, v9c, rfl⟩ := ownsN_form hr9
            have hh9 := hk9 _ _ _ _ HV.out (by decide)
            have hcB : w9.cell? ⟨B, 0, none⟩ = some (.slice va cl vc) := cell_of_block hh9 0
            have hfB := unfrozen_of_block hh9 0
            obtain ⟨C2, hC2⟩ : ∃ C2, C2 = C1 ++ timeW f := ⟨_, rfl⟩
            rw [← hC2] at hr9 ⊢
            obtain ⟨c2l, hc2l⟩ : ∃ c2l, c2l = C2.length := ⟨_, rfl⟩
            have hb10 := buf_store hh9 hr9
            rw [← hc2l] at hb10 ⊢
            have hc2b : c2l ≤ 100000100 := by
              rw [hc2l, hC2, List.length_append, ← HCL.out]
              have := time_len f (by omega)
              omega
            have HB10 : Hid (BufW B B (w9.setCell ⟨B, 0, .none⟩ (.slice v9a c2l v9c)) (C2 ++ ((S.take 0).map (oneW val f)).flatten)) := by
              unfold Hid
              rw [List.take_zero, List.map_nil, List.flatten_nil, List.append_nil]
              exact hb10
            have HL10 : Hid (Below B w3 (w9.setCell ⟨B, 0, .none⟩ (.slice v9a c2l v9c))) := ((HL5.out.trans hlo9)).setCell (Nat.le_refl _) _
            have HC2 := Lib.hid hC2
            have HC2L := Lib.hid hc2l
            clear hr9 hlo9 hk9 hh9 hb10 hC2 hc2l HAT HV hv0 HB5
            go_wp2
            go_loopg [16, 17, 65] M (fun g2 _ _ kv wq => ∃ k : Nat, k + g2 = M ∧ kv = .int .i64 k ∧ Hid (BufW B B wq (C2 ++ ((S.take k).map (oneW val f)).flatten)) ∧ Hid (Below B w3 wq))
            case atStart => exact ⟨0, by omega, rfl, HB10.out, HL10.out⟩
            case round =>
              obtain ⟨k, hk, rfl, hb, hl⟩ := hrel
              have HB11 := Lib.hid hb.out
              have HL11 := Lib.hid hl.out
              clear hb hl HB10 HL10 HL5 hcB hfB hcx
              cases gk with
              | zero =>
                obtain rfl : M = k := by omega
                have HB12 : Hid (BufW B B wr (hd ++ bodyW val S (f + 1))) := by
                  have := HB11.out
                  rw [HM.out, List.take_length, HC2.out, HC1.out] at this
                  unfold Hid
                  rw [body_succ]
                  unfold frameW
                  simpa using this
                clear HB11
                go_wp2
                go_roundg g
                case measure => omega
                case rel => exact ⟨f + 1, by omega, rfl, HB12.out, HL11.out⟩
              | succ g2 =>
                have hkM : k < M := by omega
                have hkz : (k : Int) < (M : Int) := by omega
                have hkS : k < S.length := by rw [← HM.out]; exact hkM
                have hgr5 : wr.ownsRow w2.heap.size 55 2 (.slice ga M gc) S.length (sigC S) := by
                  have h1 := HGR.out
                  rw [HM.out] at h1 ⊢
                  exact ownsN_below h1 (by rw [← HBB.out]; exact HL11.out)
                obtain ⟨V, rfl, hc1, hc2⟩ := sig_cells hgr5 hkS
                have hW1 : IntKind.i64.wrap ((k : Int) + 1) = ((k + 1 : Nat) : Int) := by rw [IntWalk.i64_in _ (by omega)]; omega
                obtain ⟨nm, hnm⟩ : ∃ nm, nm = str (S.getD k ([], 0)).1 := ⟨_, rfl⟩
                obtain ⟨lt, hlt⟩ : ∃ lt, lt = (S.getD k ([], 0)).2 := ⟨_, rfl⟩
                rw [← hnm] at hc1
                rw [← hlt] at hc2
                have hmem : S.getD k ([], 0) ∈ S := by simp [List.getD, List.getElem?_eq_getElem hkS]
                have hsk : (S.getD k ([], 0)).1.length ≤ 8 := HSHORT.out _ hmem
                have hlt32 : lt < 4294967296 := by rw [hlt]; exact HLIT.out _ hmem
                have hbs : B ≤ wr.heap.size := by have := HL11.out.size; have := HBB.out; omega
                obtain ⟨z1, hz1⟩ : ∃ z1, z1 = val f lt := ⟨_, rfl⟩
                have hz1le : z1.toNat ≤ 2 := by rw [hz1]; exact HLE.out f lt
                obtain ⟨n1, hn1⟩ : ∃ n1, n1 = z1.toNat := ⟨_, rfl⟩
                rw [← hn1] at hz1le
                have hss11 := HSS3.out.below (w' := wr) (by rw [← HBB.out]; exact HL11.out)
                have hval1 : ∀ W, Below wr.heap.size wr W → Calls Tryz.prog 20 #[.slice xa xn xc, .int .u32 (lt : Int)] W fun e w' => e = .returned (.int .u8 (n1 : Int)) ∧ Below W.heap.size W w' := fun W hW => by
                  have hsx : Sees wr xa xn xc (((runRows c t).getD f []).map bv) := by
                    have := hss11.each f (by rw [HNF.out]; exact hfN)
                    rw [← HX.out] at this
                    exact this
                  have := simvalue_any ((runRows c t).getD f []) xa xn xc lt W (hsx.below hW) hlt32
                  rw [← HVALS.out f lt hfN, ← hz1] at this
                  rw [hn1]
                  exact this
                have HVAL1 := Lib.hid hval1
                have HSS11 := Lib.hid hss11
                have HNM := Lib.hid hnm
                have HLT := Lib.hid hlt
                have HZ1 := Lib.hid hz1
                have HN1 := Lib.hid hn1
                have hx11 := ext_alloc wr (.cells #[.string nm, .int .u32 (lt : Int)] 55)
                have HX11 := Lib.hid hx11
                clear hgr5 hnm hlt hz1 hn1 hval1 hss11 hmem hx11
                go_wp2_with fail
                refine (HVAL1.out _ HX11.out).mono ?_
                rintro e w12 ⟨rfl, hb12⟩
                obtain ⟨P, hP⟩ : ∃ P, P = wr.heap.size := ⟨_, rfl⟩
                have hPc := heap_below (heap_new wr (.cells #[.string nm, .int .u32 (lt : Int)] 55) P hP) hb12
                have HB12 := Lib.hid ((HB11.out.below HX11.out).below hb12)
                have HX12 : Hid (Below wr.heap.size wr w12) := HX11.out.trans (hb12.mono HX11.out.size)
                have hp0 : w12.cell? ⟨P, 0, none⟩ = some (.string nm) := cell_of_block hPc 0
                have hp1 : w12.cell? ⟨P, 1, none⟩ = some (.int .u32 (lt : Int)) := cell_of_block hPc 1
                have HPC := Lib.hid hPc
                have HBP : Hid (B < P) := by
                  obtain ⟨_, h1, _⟩ := HB11.out
                  have := heap_lt h1
                  unfold Hid
                  omega
                rw [← hP]
                clear hb12 hP hPc HB11 hc1 hc2
                obtain ⟨tb, htb⟩ : ∃ tb, tb = toldW val f lt := ⟨_, rfl⟩
                have H0 : Hid (f = 0 → tb = true) := by
                  unfold Hid
                  intro hf0
                  rw [htb, hf0]
                  rfl
                have H1 : Hid (∀ fm, f = fm + 1 → ∃ (ya : Option Addr) (yn yc n0 : Nat), ((n1 : Int) != (n0 : Int)) = tb ∧ (∀ W, Below w12.heap.size w12 W → W.cell? ⟨P, 1, none⟩ = some (.int .u32 (lt : Int)) ∧ W.cell? ⟨rb, ro + fm, none⟩ = some (.slice ya yn yc)) ∧
                    (∀ W, Below w12.heap.size w12 W → Calls Tryz.prog 20 #[.slice ya yn yc, .int .u32 (lt : Int)] W fun e w' => e = .returned (.int .u8 (n0 : Int)) ∧ Below w12.heap.size W w')) := by
                  unfold Hid
                  intro fm hfm
                  have hfmN : fm < N := by omega
                  have hss12 := HSS11.out.below HX12.out
                  refine ⟨(ss.getD fm slc0).1, (ss.getD fm slc0).2.1, (ss.getD fm slc0).2.2, (val fm lt).toNat, ?_, ?_, ?_⟩
                  · rw [htb]
                    unfold toldW
                    have e0 : decide (f = 0) = false := decide_eq_false (by omega)
                    rw [e0, Bool.false_or, show f - 1 = fm by omega, ← HZ1.out, HN1.out]
                    by_cases hne : z1 = val fm lt
                    · rw [hne]; simp
                    · have h9 : z1.toNat ≠ (val fm lt).toNat := fun e => hne (UInt8.toNat_inj.1 e)
                      rw [show decide (z1 ≠ val fm lt) = true from decide_eq_true hne]
                      exact bne_iff_ne.2 (by omega)
                  · intro W hW
                    have hcy := (hss12.below hW).cellAt fm hfmN
                    exact ⟨cell_of_block (heap_below HPC.out hW) 1, hcy⟩
                  · intro W hW
                    have hsy := (hss12.below hW).each fm (by rw [HNF.out]; exact hfmN)
                    have := simvalue_any ((runRows c t).getD fm []) _ _ _ lt W hsy hlt32
                    rw [← HVALS.out fm lt hfmN] at this
                    exact this.mono fun e w' h => ⟨h.1, h.2.mono hW.size⟩
                have HTOLD := Lib.hid htb
                clear htb HVAL1 HSS11
                go_upto_region 23 with fail
                refine reg_Vd23 rb ro N rc P n1 f lt tb w12 hfN hN256 H0 H1 _ ?_
                intro wx
                intros
                rename_i hwx
                have HWX := Lib.hid hwx
                clear hwx H0 H1
                cases tb with
                | false =>
                  have HB17 : Hid (BufW B B wx (C2 ++ ((S.take (k + 1)).map (oneW val f)).flatten)) := by
                    have hkS : k < S.length := by rw [← HM.out]; exact hkM
                    have h1 : oneW val f (S.getD k ([], 0)) = [] := by
                      unfold oneW
                      rw [← HLT.out, if_neg (by rw [← HTOLD.out]; simp)]
                    unfold Hid
                    rw [take_flat (oneW val f) S k hkS, show S[k] = S.getD k ([], 0) by simp [List.getD, List.getElem?_eq_getElem hkS], h1, List.append_nil]
                    exact HB12.out.below HWX.out
                  have HL17 : Hid (Below B w3 wx) := HL11.out.trans ((HX12.out.trans (HWX.out.mono HX12.out.size)).mono hbs)
                  go_wp2
                  go_roundg g2
                  case measure => omega
                  case rel => exact ⟨k + 1, by omega, rfl, HB17.out, HL17.out⟩
                | true =>
                  have hwx := HWX.out
                  have hbufx := HB12.out.below hwx
                  obtain ⟨bv1, hbv, hbr⟩ := hbufx
                  obtain ⟨ba, bc, rfl⟩ := hbr.form
                  obtain ⟨C3, hC3⟩ : ∃ C3, C3 = C2 ++ ((S.take k).map (oneW val f)).flatten := ⟨_, rfl⟩
                  rw [← hC3] at hbv hbr
                  obtain ⟨c3l, hc3l⟩ : ∃ c3l, c3l = C3.length := ⟨_, rfl⟩
                  rw [← hc3l] at hbv hbr
                  have hc3b : c3l ≤ 200000000 := by
                    have h1 := flat_len (oneW val f) 10 (S.take k) (fun x hx => one_len val f x (HSHORT.out x (List.mem_of_mem_take hx)))
                    have h2 : (S.take k).length ≤ M := by rw [List.length_take, HM.out]; omega
                    have h3 : 10 * (S.take k).length ≤ 10 * M := Nat.mul_le_mul (Nat.le_refl _) h2
                    rw [hc3l, hC3, List.length_append, ← HC2L.out]
                    omega
                  obtain ⟨d1, hd1⟩ : ∃ d1 : Int, d1 = ((digV z1).toNat : Int) := ⟨_, rfl⟩
                  have hdw : w.cell? ⟨0, n1, none⟩ = some (.int .u8 d1) := by
                    have h1 := HDIG.out z1 (by rw [← HN1.out]; exact hz1le)
                    rw [← HN1.out] at h1
                    rw [hd1]
                    exact h1
                  have hbl := HLOW3.out.trans ((HL11.out.mono hs3).trans ((HX12.out.trans (hwx.mono HX12.out.size)).mono (Nat.le_trans hs3 hbs)))
                  have hdig : wx.cell? ⟨0, n1, none⟩ = some (.int .u8 d1) := (hbl.cell (lt_of_cellV hdw)).trans hdw
                  have hdB : 0 < B := Nat.lt_of_lt_of_le (lt_of_cellV hdw) hs3
                  have hbsx : B ≤ wx.heap.size := Nat.le_trans hbs (Nat.le_trans HX12.out.size hwx.size)
                  have HPX := Lib.hid (heap_below HPC.out hwx)
                  have HBV := Lib.hid hbv
                  have HBR := Lib.hid hbr
                  have HC3 := Lib.hid hC3
                  have HC3L := Lib.hid hc3l
                  have HD1 := Lib.hid hd1
                  have HDG := Lib.hid hdig
                  clear hwx hbv hbr hC3 hc3l hd1 hdw hbl hdig HB12
                  go_upto_region 24 with fail
                  refine reg_Vd24 B n1 c3l bc ba d1 (digV z1) C3 wx HBV HBR HC3L.out (by omega) HD1.out HDG.out (by omega) hbsx hdB _ ?_
                  intro w15
                  intros
                  rename_i hb15 hl15 hk15
                  have hp15 : w15.cell? ⟨P, 0, none⟩ = some (.string nm) := cell_of_block (hk15 _ _ _ _ HPX.out (by decide) (by have := HBP.out; omega)) 0
                  have hbs15 : B ≤ w15.heap.size := Nat.le_trans hbsx hl15.size
                  have hl16 := line_new B w15 (C3 ++ [digV z1]) [(S.getD k ([], 0)).1] #[.string nm] 1 w15.heap.size (by rw [HNM.out]; rfl) rfl rfl hb15 (by omega) (by rw [line_len]; simp only [Lib.lens, List.length_nil, List.map_cons, List.map_nil, List.sum_cons, List.sum_nil]; omega) (by rw [List.length_append, ← HC3L.out, List.length_singleton]; omega) hbs15
                  have HL16 := Lib.hid hl16
                  have HW15 := Lib.hid hl15
                  clear hb15 hl15 hk15 hl16 HPX HBV HBR HDG
                  go_wp2_with fail
                  refine HL16.out.mono ?_
                  rintro e w16 ⟨rfl, hb16, hlo16, _⟩
                  have HB17 : Hid (BufW B B w16 (C2 ++ ((S.take (k + 1)).map (oneW val f)).flatten)) := by
                    have hkS : k < S.length := by rw [← HM.out]; exact hkM
                    have h1 : oneW val f (S.getD k ([], 0)) = [digV z1] ++ lineW [(S.getD k ([], 0)).1] := by
                      unfold oneW
                      rw [← HLT.out, if_pos HTOLD.out.symm, ← HZ1.out]
                      rfl
                    unfold Hid
                    rw [take_flat (oneW val f) S k hkS, ← List.append_assoc, ← HC3.out, show S[k] = S.getD k ([], 0) by simp [List.getD, List.getElem?_eq_getElem hkS], h1, ← List.append_assoc]
                    exact hb16
                  have HL17 : Hid (Below B w3 w16) := (HL11.out.trans ((HX12.out.trans (HWX.out.mono HX12.out.size)).mono hbs)).trans (HW15.out.trans hlo16)
                  clear hb16 hlo16 HL16
                  go_wp2
                  go_roundg g2
                  case measure => omega
                  case rel => exact ⟨k + 1, by omega, rfl, HB17.out, HL17.out⟩
      | succ g =>
        have hkM : k < M := by omega
        have hkz : (k : Int) < (M : Int) := by omega
        have hkS : k < S.length := by rw [← HM.out]; exact hkM
        have hgr5 : wr.ownsRow w2.heap.size 55 2 (.slice ga M gc) S.length (sigC S) := by
          have h1 := HGR.out
          rw [HM.out] at h1 ⊢
          exact ownsN_below h1 (by rw [← HBB.out]; exact HL5.out)
        obtain ⟨V, rfl, hc1, hc2⟩ := sig_cells hgr5 hkS
        have hW1 : IntKind.i64.wrap ((k : Int) + 1) = ((k + 1 : Nat) : Int) := by rw [IntWalk.i64_in _ (by omega)]; omega
        obtain ⟨nm, hnm⟩ : ∃ nm, nm = str (S.getD k ([], 0)).1 := ⟨_, rfl⟩
        obtain ⟨lt, hlt⟩ : ∃ lt, lt = (S.getD k ([], 0)).2 := ⟨_, rfl⟩
        rw [← hnm] at hc1
        rw [← hlt] at hc2
        have hsk : (S.getD k ([], 0)).1.length ≤ 8 := HSHORT.out _ (by simp [List.getD, List.getElem?_eq_getElem hkS])
        have hx5 := ext_alloc wr (.cells #[.string nm, .int .u32 (lt : Int)] 55)
        have hbs : B ≤ wr.heap.size := by have := HL5.out.size; have := HBB.out; omega
        have hcur : (hd0 ++ ((S.take k).map varW).flatten).length ≤ 100000000000 := by
          have h1 := flat_len varW 40 (S.take k) (fun x hx => var_len x (HSHORT.out x (List.mem_of_mem_take hx)))
          have h2 : (S.take k).length ≤ M := by rw [List.length_take, HM.out]; omega
          have h3 : hd0.length = 27 := by rw [HHD0.out]; decide
          have h4 : 40 * (S.take k).length ≤ 40 * M := Nat.mul_le_mul (Nat.le_refl _) h2
          rw [List.length_append]
          omega
        have hl6 := line_new B (wr.alloc (.cells #[.string nm, .int .u32 (lt : Int)] 55)) (hd0 ++ ((S.take k).map varW).flatten) [kVar, kWire, kOne, (S.getD k ([], 0)).1, (S.getD k ([], 0)).1, kEnd] #[.string ⟨#[36, 118, 97, 114]⟩, .string ⟨#[119, 105, 114, 101]⟩, .string ⟨#[49]⟩, .string nm, .string nm, .string ⟨#[36, 101, 110, 100]⟩] 6 (wr.heap.size + 1) (by rw [hnm]; rfl) rfl (by simp) (HB5.out.below hx5) (by omega) (by have := var_len (S.getD k ([], 0)) hsk; unfold varW at this; omega) hcur (Nat.le_trans hbs hx5.size)
        have HL6 := Lib.hid hl6
        clear hgr5 hnm hlt hsk hx5 hcur hl6 hkS
        go_wp2_with fail
        refine HL6.out.mono ?_
        rintro e w6 ⟨rfl, hb6, hl6, _⟩
        have HB6 : Hid (BufW B B w6 (hd0 ++ ((S.take (k + 1)).map varW).flatten)) := by
          have hkS : k < S.length := by rw [← HM.out]; exact hkM
          unfold Hid
          rw [take_flat varW S k hkS, ← List.append_assoc, show S[k] = S.getD k ([], 0) by simp [List.getD, List.getElem?_eq_getElem hkS]]
          exact hb6
        have HL7 : Hid (Below B w3 w6) := HL5.out.trans (((ext_alloc wr _).mono hbs).trans hl6)
        clear hb6 hl6 HL6 HB5 HL5 hc1 hc2
        go_wp2
        go_roundg g
        case measure => omega
        case rel => exact ⟨k + 1, by omega, rfl, HB6.out, HL7.out⟩
end Go.Proofs.YtgplkpfdbiapaaaGreatDoor
