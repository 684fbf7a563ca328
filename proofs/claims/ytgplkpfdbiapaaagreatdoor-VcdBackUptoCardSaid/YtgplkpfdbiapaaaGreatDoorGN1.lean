/- The drawn regions of the law VcdBack: how many times and waves there are; a bad literal's value. -/
import Derived.Test.YtgplkpfdbiapaaaGreatDoorNBase
import Derived.Test.YtgplkpfdbiapaaaGreatDoorGA1
import Derived.Test.YtgplkpfdbiapaaaGreatDoorGA3
import Derived.Test.YtgplkpfdbiapaaaGreatDoorGA4
import Derived.Test.YtgplkpfdbiapaaaGreatDoorGD1
import Derived.Test.YtgplkpfdbiapaaaGreatDoorRows
import Derived.BigQuiet
import Derived.Deep.AppendLies
import Derived.Deep.CutRange
import Derived.Deep.QuietTactic
import Derived.Deep.RegionHeld3
import Derived.Deep.RegionLaw
import Derived.Deep.RegionWith
import Derived.KernelRfl
import Derived.Laws.EntriesVeiled
import Derived.Laws.Tables
import Derived.Lib.ConvBytes
import Derived.Lib.Hide
import Derived.Lib.SlBytesRow
import Derived.Lib.SmallJoins
import Derived.Maps.AppendAt
import Derived.Shelf.Bytes.SlSmallAll
import Derived.WalkKit
import Derived.WalkLawsBesides
import Derived.WalkSpells
import Derived.Test.YtgplkpfdbiapaaaGreatDoorGB
import Derived.Test.YtgplkpfdbiapaaaGreatDoorSRun
import Derived.Test.YtgplkpfdbiapaaaGreatDoorGF1
import Derived.Test.YtgplkpfdbiapaaaGreatDoorGE2
import Derived.Test.YtgplkpfdbiapaaaGreatDoorSRFrame
import Derived.Test.YtgplkpfdbiapaaaGreatDoorSRRun
import Derived.Test.YtgplkpfdbiapaaaGreatDoorVdSpec
import Derived.Test.YtgplkpfdbiapaaaGreatDoorGH
import Derived.Test.YtgplkpfdbiapaaaGreatDoorGI2
import Derived.Test.YtgplkpfdbiapaaaGreatDoorGM
import Derived.Test.YtgplkpfdbiapaaaGreatDoorShelf
import Derived.Test.YtgplkpfdbiapaaaGreatDoorShelf2
import Derived.BigRegion
import Derived.Laws.Bits64b
import Derived.Laws.BitsAllLaws
import Derived.Laws.BitsLemmas
import Derived.Laws.CopyOwn
import Derived.Laws.IdiomCopy
import Derived.Laws.OwnMore
import Derived.Laws.Runes
import Derived.Lib.AppendIntMem
import Derived.Lib.AppendStr
import Derived.Lib.AppendZeros
import Derived.Lib.BufferWrite
import Derived.Lib.DecodeN
import Derived.Lib.Index
import Derived.Lib.IndexEntry
import Derived.Lib.ItoaNum
import Derived.Lib.Join
import Derived.Lib.MakeNoZero
import Derived.Lib.ParseIntBCases
import Derived.LoopIn
import Derived.LoopNIn
import Derived.Maps.Own
import Derived.Maps.OwnOps
import Derived.Maps.OwnSet
import Derived.OrdersHeld
import Derived.OrdersIn
import Derived.OwnWalkIn
import Derived.RangeFuncBox
import Derived.RangeFuncCalls
import Derived.RangeFuncLeaves
import Derived.RangeFuncNested
import Derived.RangeFuncWrites
import Derived.Shelf.Abstract
import Derived.Shelf.Pu.Lower
import Derived.Shelf.Pu.ToError
import Derived.Shelf.Pu.ToErrorRange
import Derived.Shelf.RegionOpen
import Derived.Shelf.Spec.DecodeRune
import Derived.Shelf.Unicode.DecodeSlow
import Derived.Sort.CutIn
import Derived.Stop.RegionWithIn
import Derived.TacticsInMore
import Derived.Test.YtgplkpfdbiapaaaGreatDoorNHeap
import Derived.Test.YtgplkpfdbiapaaaGreatDoorGJ
/- inquestref03.Vars, by its contract. -/
namespace Go.Proofs.YtgplkpfdbiapaaaGreatDoor
open Go Go.RowKit Go.Joins
def varsC (c : NormC) : Nat := if mayC c then varsN c else 0
theorem varsC_yes {c : NormC} (h : mayC c = true) {i n1 n2 : Nat} (h0 : (i : Int) = c.ins) (h1 : c.lats.length = n1) (h2 : c.gates.length = n2) : varsC c = i + n1 + n2 ∧ i + n1 + n2 ≤ 16384 := by
  have hf := (mayC_iff.1 h).few
  unfold varsC
  rw [if_pos h]
  unfold varsN at hf ⊢
  rw [← h0, h1, h2] at hf ⊢
  simp only [Int.toNat_natCast] at hf ⊢
  exact ⟨trivial, hf⟩
set_option maxRecDepth 100000 in
set_option maxHeartbeats 1600000 in
theorem refvars_any (c : NormC) (s : CSlots) (w : World) (h : SeesCir w s c) (hs : s.small) (hlo : -9223372036854775808 ≤ c.ins) (hhi : c.ins < 9223372036854775808) (hw : Wide c) :
    Calls Tryz.prog 11 #[cirV c.ins s] w fun e w' => e = .returned (.int .i64 ((varsC c : Nat) : Int)) ∧ Below w.heap.size w w' := by
  have HMAY := Lib.hid (fun W (hb : Below w.heap.size w W) => refmay3_any c s W (h.below hb) hs hlo hhi hw)
  have YES := Lib.hid (fun (hm : mayC c = true) (i : Nat) (h0 : (i : Int) = c.ins) => varsC_yes hm h0 h.s1.1 h.s2.1)
  have POS := Lib.hid (fun (hm : mayC c = true) => (mayC_iff.1 hm).pos)
  have NO : Hid (mayC c = false → varsC c = 0) := fun h => by unfold varsC; rw [h]; rfl
  obtain ⟨a1, n1, c1, a2, n2, c2, a3, n3, c3, a4, n4, c4, a5, n5, c5⟩ := s
  obtain ⟨z, hz⟩ : ∃ z, z = c.ins := ⟨_, rfl⟩
  obtain ⟨v, hv⟩ : ∃ v, v = varsC c := ⟨_, rfl⟩
  obtain ⟨q, hq⟩ : ∃ q, q = mayC c := ⟨_, rfl⟩
  rw [← hz, ← hv]
  rw [← hz, ← hq] at HMAY
  rw [← hz, ← hv, ← hq] at YES
  rw [← hz, ← hq] at POS
  rw [← hq, ← hv] at NO
  clear hz hv hq h hs hlo hhi
  unfold cirV at *
  go_enter Tryz.func11, Tryz.ntmps11
  go_upto_region 1 with fail
  generalize hW : World.alloc _ _ = W1
  have B1 : Below w.heap.size w W1 := by subst hW; exact ext_alloc _ _
  have hX : W1.heap[w.heap.size]? = some (.cells #[.int .i64 z, .slice a1 n1 c1, .slice a2 n2 c2, .slice a3 n3 c3, .slice a4 n4 c4, .slice a5 n5 c5] 26 (0, 0)) := by subst hW; exact heap_new _ _ _ rfl
  have HX := Lib.hid hX
  have HB := Lib.hid B1
  clear hW B1 hX
  have p0 := cell_of_block HX.out 0
  have p1 := cell_of_block HX.out 1
  have p2 := cell_of_block HX.out 2
  have p3 := cell_of_block HX.out 3
  have p4 := cell_of_block HX.out 4
  have p5 := cell_of_block HX.out 5
  go_wp2_with fail
  refine (HMAY.out W1 HB.out).mono ?_
  rintro e W2 ⟨rfl, hb⟩
  have HX2 := Lib.hid (heap_below HX.out hb)
  have HB2 := Lib.hid (ext_trans HB.out hb)
  clear hb p0 p1 p2 p3 p4 p5
  cases q with
  | false =>
    have N := Lib.hid (NO.out rfl)
    go_wp2
    go_ret
    exact ⟨by rw [N.out]; rfl, HB2.out⟩
  | true =>
    obtain ⟨i, hi⟩ := Int.eq_ofNat_of_zero_le (POS.out rfl)
    have hy := YES.out rfl i hi.symm
    have hi16 : i + n1 + n2 ≤ 16384 := hy.2
    have HY := Lib.hid hy.1
    clear hy
    subst hi
    have U1 : IntKind.i64.wrap ((i : Int) + (n1 : Int)) = (i : Int) + (n1 : Int) := IntWalk.i64_in _ (by omega)
    have U2 : IntKind.i64.wrap ((i : Int) + (n1 : Int) + (n2 : Int)) = (i : Int) + (n1 : Int) + (n2 : Int) := IntWalk.i64_in _ (by omega)
    have p0 := cell_of_block HX2.out 0
    have p1 := cell_of_block HX2.out 1
    have p2 := cell_of_block HX2.out 2
    go_wp2
    go_ret
    exact ⟨by rw [HY.out]; simp, HB2.out⟩
end Go.Proofs.YtgplkpfdbiapaaaGreatDoor
/- What the law VcdBack rests on, on plain lists: each wave's values are the run's. -/
namespace Go.Proofs.YtgplkpfdbiapaaaGreatDoor
open Go Go.RowKit Go.Joins

theorem num_at (ch : UInt8) (first n i : Nat) (h : i < n) : (numW ch first n)[i]? = some (ch :: Lib.decDigits i, 2 * (first + i)) := by
  unfold numW
  rw [List.getElem?_map, List.getElem?_range h]
  rfl
theorem bad_at (l : List Nat) (n i : Nat) (h : i < n) : (badW l n)[i]? = some (98 :: Lib.decDigits i, l.getD i 0) := by
  unfold badW
  rw [List.getElem?_map, List.getElem?_range h]
  rfl
/-- The i-th signal's literal. -/
def litAt (c : NormC) (i : Nat) : Nat := if i < varsN c then 2 * (1 + i) else c.bads.getD (i - varsN c) 0
theorem sig_lit_at (c : NormC) (i : Nat) (h : i < varsN c + c.bads.length) : ((sigL c).getD i ([], 0)).2 = litAt c i := by
  unfold litAt
  unfold varsN at h ⊢
  obtain ⟨I, hI⟩ : ∃ I, I = c.ins.toNat := ⟨_, rfl⟩
  obtain ⟨L, hL⟩ : ∃ L, L = c.lats.length := ⟨_, rfl⟩
  obtain ⟨G, hG⟩ : ∃ G, G = c.gates.length := ⟨_, rfl⟩
  unfold sigL
  rw [← hI, ← hL, ← hG] at h ⊢
  rw [List.getD_eq_getElem?_getD]
  by_cases h1 : i < I
  · rw [List.getElem?_append_left (by simp only [List.length_append, numW_len]; omega), List.getElem?_append_left (by simp only [List.length_append, numW_len]; omega), List.getElem?_append_left (by rw [numW_len]; exact h1), num_at _ _ _ _ h1, if_pos (by omega)]
    rfl
  · by_cases h2 : i < I + L
    · rw [List.getElem?_append_left (by simp only [List.length_append, numW_len]; omega), List.getElem?_append_left (by simp only [List.length_append, numW_len]; omega), List.getElem?_append_right (by rw [numW_len]; omega), numW_len, num_at _ _ _ _ (by omega), if_pos (by omega)]
      show 2 * (1 + I + (i - I)) = _
      omega
    · by_cases h3 : i < I + L + G
      · rw [List.getElem?_append_left (by simp only [List.length_append, numW_len]; omega), List.getElem?_append_right (by simp only [List.length_append, numW_len]; omega), List.length_append, numW_len, numW_len, num_at _ _ _ _ (by omega), if_pos (by omega)]
        show 2 * (1 + I + L + (i - (I + L))) = _
        omega
      · rw [List.getElem?_append_right (by simp only [List.length_append, numW_len]; omega), List.length_append, List.length_append, numW_len, numW_len, numW_len, bad_at _ _ _ (by omega), if_neg (by omega)]
        rfl
/-- The waves that are read. -/
def wavesT (c : NormC) (t : TraceC) : List (List UInt8 × List UInt8) := (sigL c).map (fun s => (s.1, (List.range (t.frames.length + 1)).map (fun j => valT c t (min j (t.frames.length - 1)) s.2)))
theorem waves_len (c : NormC) (t : TraceC) : (wavesT c t).length = varsN c + c.bads.length := by unfold wavesT; rw [List.length_map, sig_many]
/-- The i-th wave's value at time j. -/
def waveU (c : NormC) (t : TraceC) (i j : Nat) : UInt8 := valT c t (min j (t.frames.length - 1)) (litAt c i)
theorem wave_vals (c : NormC) (t : TraceC) (i : Nat) (h : i < varsN c + c.bads.length) : ((wavesT c t).getD i ([], [])).2 = (List.range (t.frames.length + 1)).map (fun j => waveU c t i j) := by
  have hs : i < (sigL c).length := by rw [sig_many]; exact h
  have e := sig_lit_at c i h
  unfold wavesT
  rw [List.getD_eq_getElem?_getD, List.getElem?_map]
  rw [List.getD_eq_getElem?_getD, List.getElem?_eq_getElem hs] at e
  rw [List.getElem?_eq_getElem hs]
  simp only [Option.map_some, Option.getD_some] at e ⊢
  rw [e]
  rfl
theorem varsAt_le10 {c : NormC} {t : TraceC} (h : FitsC c t) (k : Nat) (hk : k < t.frames.length) : ∀ u ∈ varsAt c t k, u.toNat ≤ 2 := by
  unfold varsAt Kd.vars
  refine gates_le2 _ _ (fun v hv => ?_)
  rcases List.mem_cons.1 hv with rfl | hv
  · decide
  · rcases List.mem_append.1 hv with hv | hv
    · exact h.values _ (getD_mem hk) v hv
    · exact after_le _ _ h.inits (fun f hf => h.values f (List.mem_of_mem_take hf)) v hv
/-- The value of a variable. -/
theorem waveU_var {c : NormC} {t : TraceC} (hf : FitsC c t) (i j : Nat) (h : i < varsN c) : waveU c t i j = (varsAt c t (min j (t.frames.length - 1))).getD (i + 1) 0 := by
  have h1 := hf.one
  have hk : min j (t.frames.length - 1) < t.frames.length := by omega
  have hl := varsAt_len c t hf.init hf.frames _ hk
  have hle := varsAt_le10 hf _ hk
  unfold waveU litAt valT
  rw [if_pos h]
  unfold valueL
  have e1 : 2 * (1 + i) / 2 = i + 1 := by omega
  have e2 : 2 * (1 + i) % 2 = 0 := by omega
  rw [e1, if_pos ⟨by omega, hle _ (getD_mem (by omega))⟩]
  unfold Kd.val
  rw [e2, e1, if_neg (by omega)]
  rfl
/-- The value of a bad literal. -/
theorem waveU_bad (c : NormC) (t : TraceC) (i j : Nat) (h : ¬ i < varsN c) : waveU c t i j = valueL (varsAt c t (min j (t.frames.length - 1))) (c.bads.getD (i - varsN c) 0) := by
  unfold waveU litAt valT
  rw [if_neg h]
/-- What the law asks no more of. -/
def great10 (c : NormC) (t : TraceC) : Bool := decide (200 < c.ins) || (decide (200 < c.lats.length) || (decide (200 < c.gates.length) || (decide (200 < c.bads.length) || decide (100 < t.frames.length))))
theorem file_small {c : NormC} {t : TraceC} (hf : FitsC c t) (hg : great10 c t = false) : (fileT c t).length ≤ 8388608 := by
  unfold great10 at hg
  simp only [Bool.or_eq_false_iff, decide_eq_false_iff_not] at hg
  have hs := sig_short c hf.may
  have hm := sig_many c
  have h1 := head_len (sigL c) hs
  have h2 := body_len (valT c t) (sigL c) t.frames.length (by omega) hs
  have h3 := time_len t.frames.length (by omega)
  have hS : (sigL c).length ≤ 800 := by rw [hm]; unfold varsN; have := hf.may.pos; omega
  have h4 : (9 + 10 * (sigL c).length) * t.frames.length ≤ 8009 * 100 := Nat.mul_le_mul (by omega) (by omega)
  unfold fileT fileW
  rw [List.length_append, List.length_append]
  omega
theorem read_waves {c : NormC} {t : TraceC} (hf : FitsC c t) (hg : great10 c t = false) : readV (fileT c t) = (List.range (t.frames.length + 1), wavesT c t, 0) := read_fileT c t hf (file_small hf hg)
end Go.Proofs.YtgplkpfdbiapaaaGreatDoor
/- The law's great, by its contract. -/
namespace Go.Proofs.YtgplkpfdbiapaaaGreatDoor
open Go Go.RowKit Go.Joins

set_option maxRecDepth 100000 in
set_option maxHeartbeats 320000 in
theorem great10_any (c : NormC) (t : TraceC) (s : CSlots) (st : TSlots) (w : World) (h : SeesCir w s c) (ht : SeesTr w st t) :
    Calls Tryz.prog 6 #[cirV c.ins s, traceV t.bad st] w fun e w' => e = .returned (.bool (great10 c t)) ∧ Below w.heap.size w w' := by
  obtain ⟨a1, n1, c1, a2, n2, c2, a3, n3, c3, a4, n4, c4, a5, n5, c5⟩ := s
  obtain ⟨b1, m1, d1, b2, m2, d2, ss⟩ := st
  have l1 : c.lats.length = n1 := h.s1.1
  have l2 : c.gates.length = n2 := h.s2.1
  have l5 : c.bads.length = n4 := h.s4.lenMap
  have l6 : t.frames.length = m2 := ht.s2.n_eq
  obtain ⟨z, hz⟩ : ∃ z, z = c.ins := ⟨_, rfl⟩
  obtain ⟨y, hy⟩ : ∃ y, y = t.bad := ⟨_, rfl⟩
  have HE : Hid (great10 c t = (decide (200 < z) || (decide (200 < n1) || (decide (200 < n2) || (decide (200 < n4) || decide (100 < m2)))))) := by
    show _ = _; unfold great10; rw [l1, l2, l5, l6, ← hz]
  rw [← hz, ← hy]
  clear l1 l2 l5 l6 hz hy h ht
  unfold cirV traceV
  go_enter Tryz.func6, Tryz.ntmps6
  go_upto_region 1 with fail
  generalize hW : World.alloc (World.alloc w _) _ = W1
  have hb : Below w.heap.size w W1 := by subst hW; exact ext_trans (ext_alloc _ _) (ext_alloc _ _)
  have hx : W1.heap[w.heap.size]? = some (.cells #[.int .i64 z, .slice a1 n1 c1, .slice a2 n2 c2, .slice a3 n3 c3, .slice a4 n4 c4, .slice a5 n5 c5] 26 (0, 0)) := by subst hW; exact heap_below (heap_new _ _ _ rfl) (ext_alloc _ _)
  have ht : W1.heap[w.heap.size + 1]? = some (.cells #[.int .i64 y, .slice b1 m1 d1, .slice b2 m2 d2] 30 (0, 0)) := by subst hW; exact heap_new _ _ _ (by simp)
  have HB := Lib.hid hb
  have p0 := cell_of_block hx 0
  have p1 := cell_of_block hx 1
  have p2 := cell_of_block hx 2
  have p4 := cell_of_block hx 4
  have r2 := cell_of_block ht 2
  clear hW hb hx ht
  by_cases t1 : 200 < z
  · have e1 : decide ((200 : Int) < z) = true := by simpa using t1
    have HF : Hid (great10 c t = true) := by show _ = _; rw [HE.out, e1]; rfl
    go_wp2
    go_ret
    exact ⟨by rw [HF.out]; rfl, HB.out⟩
  have e1 : decide ((200 : Int) < z) = false := by simpa using t1
  by_cases t2 : 200 < n1
  · have e2 : decide ((200 : Int) < (n1 : Int)) = true := by simp; omega
    have HF : Hid (great10 c t = true) := by show _ = _; rw [HE.out, decide_eq_true t2]; simp
    go_wp2
    go_ret
    exact ⟨by rw [HF.out]; rfl, HB.out⟩
  have e2 : decide ((200 : Int) < (n1 : Int)) = false := by simp; omega
  by_cases t3 : 200 < n2
  · have e3 : decide ((200 : Int) < (n2 : Int)) = true := by simp; omega
    have HF : Hid (great10 c t = true) := by show _ = _; rw [HE.out, decide_eq_true t3]; simp
    go_wp2
    go_ret
    exact ⟨by rw [HF.out]; rfl, HB.out⟩
  have e3 : decide ((200 : Int) < (n2 : Int)) = false := by simp; omega
  by_cases t4 : 200 < n4
  · have e4 : decide ((200 : Int) < (n4 : Int)) = true := by simp; omega
    have HF : Hid (great10 c t = true) := by show _ = _; rw [HE.out, decide_eq_true t4]; simp
    go_wp2
    go_ret
    exact ⟨by rw [HF.out]; rfl, HB.out⟩
  have e4 : decide ((200 : Int) < (n4 : Int)) = false := by simp; omega
  have e5 : decide ((100 : Int) < (m2 : Int)) = decide (100 < m2) := decide_eq_decide.2 (by omega)
  have HF : Hid (great10 c t = decide (100 < m2)) := by show _ = _; rw [HE.out, e1, decide_eq_false t2, decide_eq_false t3, decide_eq_false t4]; rfl
  obtain ⟨q, hq⟩ : ∃ q, q = decide (100 < m2) := ⟨_, rfl⟩
  rw [← hq] at e5 HF
  clear hq
  go_wp2
  go_ret
  exact ⟨by rw [HF.out]; rfl, HB.out⟩

end Go.Proofs.YtgplkpfdbiapaaaGreatDoor
/- The drawn regions of the law VcdBack: how many times and waves there are; a bad literal's value. -/
namespace Go.Proofs.YtgplkpfdbiapaaaGreatDoor
open Go Go.RowKit Go.Joins

noncomputable def codeVk8 : Code := ((Tryz.f3.body.bind (findRegion 8)).getD .skip)
set_option maxRecDepth 100000 in
set_option maxHeartbeats 25600000 in
theorem reg_Vk8 (P n1 c1 n2 c2 n3 c3 n4 c4 n5 c5 : Nat) (a1 a2 a3 a4 a5 : Option Addr) (z : Int) (ta wa ra : Option Addr) (tn tc wn wc rn rc V : Nat) (X0 : World) (Wt : IntKind.i64.wrap ((rn : Int) + 1) = (tn : Int)) (Wv : IntKind.i64.wrap ((V : Int) + (n4 : Int)) = (wn : Int))
    (HELDB : Hid (∀ W, Below X0.heap.size X0 W → W.cell? ⟨P, 0, none⟩ = some (.int .i64 z) ∧ W.cell? ⟨P, 1, none⟩ = some (.slice a1 n1 c1) ∧ W.cell? ⟨P, 2, none⟩ = some (.slice a2 n2 c2) ∧ W.cell? ⟨P, 3, none⟩ = some (.slice a3 n3 c3) ∧ W.cell? ⟨P, 4, none⟩ = some (.slice a4 n4 c4) ∧ W.cell? ⟨P, 5, none⟩ = some (.slice a5 n5 c5)))
    (HC0 : Hid (∀ W, Below X0.heap.size X0 W → Calls Tryz.prog 11 #[.agg #[.int .i64 z, .slice a1 n1 c1, .slice a2 n2 c2, .slice a3 n3 c3, .slice a4 n4 c4, .slice a5 n5 c5]] W fun e w' => e = .returned (.int .i64 (V : Int)) ∧ Below X0.heap.size W w'))
    (QQ : Exit → Act → World → Prop)
    {v0 v1 v3 v4 v5 v6 v11 v12 v13 v14 v15 v16 v17 v18 v19 v20 v21 v22 v23 v24 v25 v26 v27 v28 v29 v30 v31 v32 v33 v34 v35 v36 v37 v38 v39 v40 v41 v42 v43 v44 v45 v46 v47 v48 v49 v50 v51 v52 v53 v54 v55 v56 v57 v58 v59 v60 v61 v62 v63 v64 v65 v66 v67 v68 v69 v70 v71 v72 v73 v74 v75 v76 v77 v78 v79 v80 v81 v82 v83 v84 v85 v86 v87 v88 v89 v90 v91 v92 v93 v94 v95 v96 v97 v98 v99 v100 v101 v102 v103 v104 v105 v106 v107 v108 v109 v110 v111 v112 v113 v114 v115 v116 v117 v118 v119 v120 v121 v122 v123 v124 v125 v126 v127 v128 v129 v130 v131 v132 v133 v134 v135 v136 v137 v138 v139 v140 v141 v142 v143 v144 v145 v146 v147 : Value}
    (hK : ∀ (wx : World) (u59 u60 u61 u62 u63 u64 u65 u66 u67 u68 u69 u70 u71 u72 u73 u74 u75 u76 u77 u78 : Value), Below X0.heap.size X0 wx → QQ .normal ⟨#[v0, v1, .pointer (some ⟨P, 0, none⟩), v3, v4, v5, v6, .slice ta tn tc, .slice wa wn wc, .int .i64 0, .slice ra rn rc, v11, v12, v13, v14, v15, v16, v17, 
      v18, v19, v20, v21, v22, v23, v24, v25, v26, v27, v28, v29, v30, v31, v32, v33, v34, v35, v36, v37, v38, v39, v40, v41, v42, v43, v44, v45, v46, v47, v48, 
      v49, v50, v51, v52, v53, v54, v55, v56, v57, v58, u59, u60, u61, u62, u63, u64, u65, u66, u67, u68, u69, u70, u71, u72, u73, u74, u75, u76, u77, u78, .bool false, 
      v80, v81, v82, v83, v84, v85, v86, v87, v88, v89, v90, v91, v92, v93, v94, v95, v96, v97, v98, v99, v100, v101, v102, v103, v104, v105, v106, v107, v108, 
      v109, v110, v111, v112, v113, v114, v115, v116, v117, v118, v119, v120, v121, v122, v123, v124, v125, v126, v127, v128, v129, v130, v131, v132, v133, v134, 
      v135, v136, v137, v138, v139, v140, v141, v142, v143, v144, v145, v146, v147], []⟩ wx) :
    Code.wp Tryz.prog codeVk8 QQ ⟨#[v0, v1, .pointer (some ⟨P, 0, none⟩), v3, v4, v5, v6, .slice ta tn tc, .slice wa wn wc, .int .i64 0, .slice ra rn rc, v11, v12, v13, v14, v15, v16, v17, 
      v18, v19, v20, v21, v22, v23, v24, v25, v26, v27, v28, v29, v30, v31, v32, v33, v34, v35, v36, v37, v38, v39, v40, v41, v42, v43, v44, v45, v46, v47, v48, 
      v49, v50, v51, v52, v53, v54, v55, v56, v57, v58, v59, v60, v61, v62, v63, v64, v65, v66, v67, v68, v69, v70, v71, v72, v73, v74, v75, v76, v77, v78, v79, 
      v80, v81, v82, v83, v84, v85, v86, v87, v88, v89, v90, v91, v92, v93, v94, v95, v96, v97, v98, v99, v100, v101, v102, v103, v104, v105, v106, v107, v108, 
      v109, v110, v111, v112, v113, v114, v115, v116, v117, v118, v119, v120, v121, v122, v123, v124, v125, v126, v127, v128, v129, v130, v131, v132, v133, v134, 
      v135, v136, v137, v138, v139, v140, v141, v142, v143, v144, v145, v146, v147], []⟩ X0 := by
  have e1 : ((tn : Int) != (tn : Int)) = false := by simp
  have e2 : ((wn : Int) != (wn : Int)) = false := by simp
  have e3 : (tn != tn) = false := by simp
  have e4 : (wn != wn) = false := by simp
  conv => arg 2; whnf
  refine wp_region_noPanic ?_
  refine wp_region_held (S := fun w' => w'.cell? ⟨P, 0, none⟩ = some (.int .i64 z) ∧ w'.cell? ⟨P, 1, none⟩ = some (.slice a1 n1 c1) ∧ w'.cell? ⟨P, 2, none⟩ = some (.slice a2 n2 c2) ∧ w'.cell? ⟨P, 3, none⟩ = some (.slice a3 n3 c3) ∧ w'.cell? ⟨P, 4, none⟩ = some (.slice a4 n4 c4) ∧ w'.cell? ⟨P, 5, none⟩ = some (.slice a5 n5 c5)) (by kernel_rfl) ?_
  generalize hYY : ({ X0 with drawn := X0.drawn + 1 } : World) = Y0
  have hY0 : Below X0.heap.size X0 Y0 := by subst hYY; exact (Below.refl _ _).drew
  have HC1 := Lib.hid (HC0.out Y0 hY0)
  have HSD := Lib.hid (HELDB.out Y0 hY0)
  have HY0 := Lib.hid hY0
  clear hYY hY0
  refine wpAnyH_take (i := 0) (v := ?_) (by simp only [List.getElem?_toArray, List.getElem?_cons_zero]; rfl) (by kernel_rfl) (by kernel_rfl) (by kernel_rfl) (fun _ _ _ h => h) (Or.inl ⟨by rfl, ?_⟩) HSD.out ?_
  rotate_left
  · intro w hSw
    (try dsimp only at hSw)
    obtain ⟨q0_, q1_, q2_, q3_, q4_, q5_⟩ := hSw
    go_simp
    try with_reducible rfl
  try simp only [Act.put, List.setIfInBounds_toArray, List.set_cons_zero, List.set_cons_succ]
  refine wpAnyH_take (i := 1) (v := ?_) (by simp only [List.getElem?_toArray, List.getElem?_cons_zero, List.getElem?_cons_succ]; rfl) (by kernel_rfl) (by kernel_rfl) (by kernel_rfl) (fun _ _ _ h => h) (Or.inl ⟨by rfl, ?_⟩) HSD.out ?_
  rotate_left
  · intro w hSw
    (try dsimp only at hSw)
    obtain ⟨q0_, q1_, q2_, q3_, q4_, q5_⟩ := hSw
    go_simp
    try with_reducible rfl
  try simp only [Act.put, List.setIfInBounds_toArray, List.set_cons_zero, List.set_cons_succ]
  refine wpAnyH_take (i := 2) (v := ?_) (by simp only [List.getElem?_toArray, List.getElem?_cons_zero, List.getElem?_cons_succ]; rfl) (by kernel_rfl) (by kernel_rfl) (by kernel_rfl) (fun _ _ _ h => h) (Or.inl ⟨by rfl, ?_⟩) HSD.out ?_
  rotate_left
  · intro w hSw
    (try dsimp only at hSw)
    obtain ⟨q0_, q1_, q2_, q3_, q4_, q5_⟩ := hSw
    go_simp
    try with_reducible rfl
  try simp only [Act.put, List.setIfInBounds_toArray, List.set_cons_zero, List.set_cons_succ]
  refine wpAnyH_take (i := 3) (v := ?_) (by simp only [List.getElem?_toArray, List.getElem?_cons_zero, List.getElem?_cons_succ]; rfl) (by kernel_rfl) (by kernel_rfl) (by kernel_rfl) (fun _ _ _ h => h) (Or.inl ⟨by rfl, ?_⟩) HSD.out ?_
  rotate_left
  · intro w hSw
    (try dsimp only at hSw)
    obtain ⟨q0_, q1_, q2_, q3_, q4_, q5_⟩ := hSw
    go_simp
    try with_reducible rfl
  try simp only [Act.put, List.setIfInBounds_toArray, List.set_cons_zero, List.set_cons_succ]
  refine wpAnyH_take (i := 4) (v := ?_) (by simp only [List.getElem?_toArray, List.getElem?_cons_zero, List.getElem?_cons_succ]; rfl) (by kernel_rfl) (by kernel_rfl) (by kernel_rfl) (fun _ _ _ h => h) (Or.inl ⟨by rfl, ?_⟩) HSD.out ?_
  rotate_left
  · intro w hSw
    (try dsimp only at hSw)
    obtain ⟨q0_, q1_, q2_, q3_, q4_, q5_⟩ := hSw
    go_simp
    try with_reducible rfl
  try simp only [Act.put, List.setIfInBounds_toArray, List.set_cons_zero, List.set_cons_succ]
  refine wpAnyH_take (i := 5) (v := ?_) (by simp only [List.getElem?_toArray, List.getElem?_cons_zero, List.getElem?_cons_succ]; rfl) (by kernel_rfl) (by kernel_rfl) (by kernel_rfl) (fun _ _ _ h => h) (Or.inl ⟨by rfl, ?_⟩) HSD.out ?_
  rotate_left
  · intro w hSw
    (try dsimp only at hSw)
    obtain ⟨q0_, q1_, q2_, q3_, q4_, q5_⟩ := hSw
    go_simp
    try with_reducible rfl
  try simp only [Act.put, List.setIfInBounds_toArray, List.set_cons_zero, List.set_cons_succ]
  refine wpAnyH_take (i := 6) (v := ?_) (by simp only [List.getElem?_toArray, List.getElem?_cons_zero, List.getElem?_cons_succ]; rfl) (by kernel_rfl) (by kernel_rfl) (by kernel_rfl) (fun _ _ _ h => h) (Or.inl ⟨by rfl, ?_⟩) HSD.out ?_
  rotate_left
  · intro w hSw
    (try dsimp only at hSw)
    obtain ⟨q0_, q1_, q2_, q3_, q4_, q5_⟩ := hSw
    go_simp
    try with_reducible rfl
  try simp only [Act.put, List.setIfInBounds_toArray, List.set_cons_zero, List.set_cons_succ]
  refine wpAnyH_take (i := 7) (v := ?_) (by simp only [List.getElem?_toArray, List.getElem?_cons_zero, List.getElem?_cons_succ]; rfl) (by kernel_rfl) (by kernel_rfl) (by kernel_rfl) (fun _ _ _ h => h) (Or.inl ⟨by rfl, ?_⟩) HSD.out ?_
  rotate_left
  · intro w hSw
    (try dsimp only at hSw)
    obtain ⟨q0_, q1_, q2_, q3_, q4_, q5_⟩ := hSw
    go_simp
    try with_reducible rfl
  try simp only [Act.put, List.setIfInBounds_toArray, List.set_cons_zero, List.set_cons_succ]
  refine wpAnyH_take (i := 8) (v := ?_) (by simp only [List.getElem?_toArray, List.getElem?_cons_zero, List.getElem?_cons_succ]; rfl) (by kernel_rfl) (by kernel_rfl) (by kernel_rfl) (fun _ _ _ h => h) (Or.inl ⟨by rfl, ?_⟩) HSD.out ?_
  rotate_left
  · intro w hSw
    (try dsimp only at hSw)
    obtain ⟨q0_, q1_, q2_, q3_, q4_, q5_⟩ := hSw
    go_simp
    try with_reducible rfl
  try simp only [Act.put, List.setIfInBounds_toArray, List.set_cons_zero, List.set_cons_succ]
  refine wpAnyH_take (i := 9) (v := ?_) (by simp only [List.getElem?_toArray, List.getElem?_cons_zero, List.getElem?_cons_succ]; rfl) (by kernel_rfl) (by kernel_rfl) (by kernel_rfl) (fun _ _ _ h => h) (Or.inl ⟨by rfl, ?_⟩) HSD.out ?_
  rotate_left
  · intro w hSw
    (try dsimp only at hSw)
    obtain ⟨q0_, q1_, q2_, q3_, q4_, q5_⟩ := hSw
    go_simp
    try with_reducible rfl
  try simp only [Act.put, List.setIfInBounds_toArray, List.set_cons_zero, List.set_cons_succ]
  refine wpAnyH_take (i := 10) (v := ?_) (by simp only [List.getElem?_toArray, List.getElem?_cons_zero, List.getElem?_cons_succ]; rfl) (by kernel_rfl) (by kernel_rfl) (by kernel_rfl) (fun _ _ _ h => h) (Or.inl ⟨by rfl, ?_⟩) HSD.out ?_
  rotate_left
  · intro w hSw
    (try dsimp only at hSw)
    obtain ⟨q0_, q1_, q2_, q3_, q4_, q5_⟩ := hSw
    go_simp
    try with_reducible rfl
  try simp only [Act.put, List.setIfInBounds_toArray, List.set_cons_zero, List.set_cons_succ]
  refine wpAnyH_take (i := 11) (v := ?_) (by simp only [List.getElem?_toArray, List.getElem?_cons_zero, List.getElem?_cons_succ]; rfl) (by kernel_rfl) (by kernel_rfl) (by kernel_rfl) (fun _ _ _ h => h) (Or.inl ⟨by rfl, ?_⟩) HSD.out ?_
  rotate_left
  · intro w hSw
    (try dsimp only at hSw)
    obtain ⟨q0_, q1_, q2_, q3_, q4_, q5_⟩ := hSw
    go_simp
    try with_reducible rfl
  try simp only [Act.put, List.setIfInBounds_toArray, List.set_cons_zero, List.set_cons_succ]
  refine wpAnyH_take (i := 12) (v := ?_) (by simp only [List.getElem?_toArray, List.getElem?_cons_zero, List.getElem?_cons_succ]; rfl) (by kernel_rfl) (by kernel_rfl) (by kernel_rfl) (fun _ _ _ h => h) (Or.inl ⟨by rfl, ?_⟩) HSD.out ?_
  rotate_left
  · intro w hSw
    (try dsimp only at hSw)
    obtain ⟨q0_, q1_, q2_, q3_, q4_, q5_⟩ := hSw
    go_simp
    try with_reducible rfl
  try simp only [Act.put, List.setIfInBounds_toArray, List.set_cons_zero, List.set_cons_succ]
  refine wpAnyH_take (i := 13) (v := ?_) (by simp only [List.getElem?_toArray, List.getElem?_cons_zero, List.getElem?_cons_succ]; rfl) (by kernel_rfl) (by kernel_rfl) (by kernel_rfl) (fun _ _ _ h => h) (Or.inl ⟨by rfl, ?_⟩) HSD.out ?_
  rotate_left
  · intro w hSw
    (try dsimp only at hSw)
    obtain ⟨q0_, q1_, q2_, q3_, q4_, q5_⟩ := hSw
    go_simp
    try with_reducible rfl
  try simp only [Act.put, List.setIfInBounds_toArray, List.set_cons_zero, List.set_cons_succ]
  refine wpAnyH_take (i := 15) (v := ?_) (by simp only [List.getElem?_toArray, List.getElem?_cons_zero, List.getElem?_cons_succ]; rfl) (by kernel_rfl) (by kernel_rfl) (by kernel_rfl) (fun _ _ _ h => h) (Or.inl ⟨by rfl, ?_⟩) HSD.out ?_
  rotate_left
  · intro w hSw
    (try dsimp only at hSw)
    obtain ⟨q0_, q1_, q2_, q3_, q4_, q5_⟩ := hSw
    go_simp
    try with_reducible rfl
  try simp only [Act.put, List.setIfInBounds_toArray, List.set_cons_zero, List.set_cons_succ]
  refine wpAnyH_take (i := 16) (v := ?_) (by simp only [List.getElem?_toArray, List.getElem?_cons_zero, List.getElem?_cons_succ]; rfl) (by kernel_rfl) (by kernel_rfl) (by kernel_rfl) (fun _ _ _ h => h) (Or.inl ⟨by rfl, ?_⟩) HSD.out ?_
  rotate_left
  · intro w hSw
    (try dsimp only at hSw)
    obtain ⟨q0_, q1_, q2_, q3_, q4_, q5_⟩ := hSw
    go_simp
    try with_reducible rfl
  try simp only [Act.put, List.setIfInBounds_toArray, List.set_cons_zero, List.set_cons_succ]
  refine wpAnyH_take (i := 17) (v := ?_) (by simp only [List.getElem?_toArray, List.getElem?_cons_zero, List.getElem?_cons_succ]; rfl) (by kernel_rfl) (by kernel_rfl) (by kernel_rfl) (fun _ _ _ h => h) (Or.inl ⟨by rfl, ?_⟩) HSD.out ?_
  rotate_left
  · intro w hSw
    (try dsimp only at hSw)
    obtain ⟨q0_, q1_, q2_, q3_, q4_, q5_⟩ := hSw
    go_simp
    try with_reducible rfl
  try simp only [Act.put, List.setIfInBounds_toArray, List.set_cons_zero, List.set_cons_succ]
  refine wpAnyH_ready (rs := [14]) (by kernel_rfl) (by simp) ?_
  refine AllReadyH.cons (by simp only [List.getElem?_toArray, List.getElem?_cons_zero, List.getElem?_cons_succ]; rfl) (fun K hK => ?_) AllReadyH.nil
  go_simp
  refine HC1.out.mono ?_
  rintro e wx ⟨rfl, bx⟩
  have hwx := HY0.out.trans bx
  have HWX := Lib.hid hwx
  have HSD2 := Lib.hid (HELDB.out wx hwx)
  clear bx hwx HSD HY0 HC1
  refine hK.out _ _ HSD2.out (fun _ => ?_)
  clear hK K
  try simp only [Act.put, List.setIfInBounds_toArray, List.set_cons_zero, List.set_cons_succ]
  refine wpAnyH_take (i := 18) (v := ?_) (by simp only [List.getElem?_toArray, List.getElem?_cons_zero, List.getElem?_cons_succ]; rfl) (by kernel_rfl) (by kernel_rfl) (by kernel_rfl) (fun _ _ _ h => h) (Or.inl ⟨by rfl, ?_⟩) HSD2.out ?_
  rotate_left
  · intro w hSw
    (try dsimp only at hSw)
    obtain ⟨q0_, q1_, q2_, q3_, q4_, q5_⟩ := hSw
    go_simp
    try with_reducible rfl
  try simp only [Act.put, List.setIfInBounds_toArray, List.set_cons_zero, List.set_cons_succ]
  refine wpAnyH_take (i := 19) (v := ?_) (by simp only [List.getElem?_toArray, List.getElem?_cons_zero, List.getElem?_cons_succ]; rfl) (by kernel_rfl) (by kernel_rfl) (by kernel_rfl) (fun _ _ _ h => h) (Or.inl ⟨by rfl, ?_⟩) HSD2.out ?_
  rotate_left
  · intro w hSw
    (try dsimp only at hSw)
    obtain ⟨q0_, q1_, q2_, q3_, q4_, q5_⟩ := hSw
    go_simp
    try with_reducible rfl
  try simp only [Act.put, List.setIfInBounds_toArray, List.set_cons_zero, List.set_cons_succ]
  refine wpAnyH_take (i := 20) (v := ?_) (by simp only [List.getElem?_toArray, List.getElem?_cons_zero, List.getElem?_cons_succ]; rfl) (by kernel_rfl) (by kernel_rfl) (by kernel_rfl) (fun _ _ _ h => h) (Or.inl ⟨by rfl, ?_⟩) HSD2.out ?_
  rotate_left
  · intro w hSw
    (try dsimp only at hSw)
    obtain ⟨q0_, q1_, q2_, q3_, q4_, q5_⟩ := hSw
    go_simp
    try with_reducible rfl
  try simp only [Act.put, List.setIfInBounds_toArray, List.set_cons_zero, List.set_cons_succ]
  refine wpAnyH_done (by kernel_rfl) ?_ _
  refine NoPanic.normal ?_
  exact hK _ _ _ _ _ _ _ _ _ _ _ _ _ _ _ _ _ _ _ _ _ HWX.out
end Go.Proofs.YtgplkpfdbiapaaaGreatDoor
namespace Go.Proofs.YtgplkpfdbiapaaaGreatDoor
open Go Go.RowKit Go.Joins

noncomputable def codeVk22 : Code := ((Tryz.f3.body.bind (findRegion 22)).getD .skip)
set_option maxRecDepth 100000 in
set_option maxHeartbeats 25600000 in
theorem reg_Vk22 (P n1 c1 n2 c2 n3 c3 n4 c4 n5 c5 : Nat) (a1 a2 a3 a5 : Option Addr) (z : Int) (va : Option Addr) (vn vc i V m bb bo lit uz : Nat) (X0 : World) (Wm : IntKind.i64.wrap ((i : Int) - (V : Int)) = (m : Int)) (hm : m < n4)
    (HELDB : Hid (∀ W, Below X0.heap.size X0 W → W.cell? ⟨P, 0, none⟩ = some (.int .i64 z) ∧ W.cell? ⟨P, 1, none⟩ = some (.slice a1 n1 c1) ∧ W.cell? ⟨P, 2, none⟩ = some (.slice a2 n2 c2) ∧ W.cell? ⟨P, 3, none⟩ = some (.slice a3 n3 c3) ∧ W.cell? ⟨P, 4, none⟩ = some (.slice (some ⟨bb, bo, none⟩) n4 c4) ∧ W.cell? ⟨P, 5, none⟩ = some (.slice a5 n5 c5) ∧ W.cell? ⟨bb, bo + m, none⟩ = some (.int .u32 (lit : Int))))
    (HC0 : Hid (∀ W, Below X0.heap.size X0 W → Calls Tryz.prog 11 #[.agg #[.int .i64 z, .slice a1 n1 c1, .slice a2 n2 c2, .slice a3 n3 c3, .slice (some ⟨bb, bo, none⟩) n4 c4, .slice a5 n5 c5]] W fun e w' => e = .returned (.int .i64 (V : Int)) ∧ Below X0.heap.size W w'))
    (HV0 : Hid (∀ W, Below X0.heap.size X0 W → Calls Tryz.prog 12 #[.slice va vn vc, .int .u32 (lit : Int)] W fun e w' => e = .returned (.int .u8 (uz : Int)) ∧ w' = W))
    (QQ : Exit → Act → World → Prop)
    {v0 v1 v3 v4 v5 v6 v7 v8 v9 v10 v11 v12 v15 v16 v17 v18 v19 v20 v21 v22 v23 v24 v25 v26 v27 v28 v29 v30 v31 v32 v33 v34 v35 v36 v37 v38 v39 v40 v41 v42 v43 v44 v45 v46 v47 v48 v49 v50 v51 v52 v53 v54 v55 v56 v57 v58 v59 v60 v61 v62 v63 v64 v65 v66 v67 v68 v69 v70 v71 v72 v73 v74 v75 v76 v77 v78 v79 v80 v81 v82 v83 v84 v85 v86 v87 v88 v89 v90 v91 v92 v93 v94 v95 v96 v97 v98 v99 v100 v101 v102 v103 v104 v105 v106 v107 v108 v109 v110 v111 v112 v113 v114 v115 v116 v117 v118 v119 v120 v121 v122 v123 v124 v125 v126 v127 v128 v129 v130 v131 v132 v133 v134 v135 v136 v137 v138 v139 v140 v141 v142 v143 v144 v145 v146 v147 : Value}
    (hK : ∀ (wx : World) (u114 u115 u116 u117 u118 u119 u120 u121 u122 u123 : Value), Below X0.heap.size X0 wx → QQ .normal ⟨#[v0, v1, .pointer (some ⟨P, 0, none⟩), v3, v4, v5, v6, v7, v8, v9, v10, v11, v12, .slice va vn vc, .int .i64 (i : Int), .int .u8 (uz : Int), v16, v17, v18, 
      v19, v20, v21, v22, v23, v24, v25, v26, v27, v28, v29, v30, v31, v32, v33, v34, v35, v36, v37, v38, v39, v40, v41, v42, v43, v44, v45, v46, v47, v48, v49, 
      v50, v51, v52, v53, v54, v55, v56, v57, v58, v59, v60, v61, v62, v63, v64, v65, v66, v67, v68, v69, v70, v71, v72, v73, v74, v75, v76, v77, v78, v79, v80, 
      v81, v82, v83, v84, v85, v86, v87, v88, v89, v90, v91, v92, v93, v94, v95, v96, v97, v98, v99, v100, v101, v102, v103, v104, v105, v106, v107, v108, v109, 
      v110, v111, v112, v113, u114, u115, u116, u117, u118, u119, u120, u121, u122, u123, v124, v125, v126, v127, v128, v129, v130, v131, v132, v133, v134, v135, 
      v136, v137, v138, v139, v140, v141, v142, v143, v144, v145, v146, v147], []⟩ wx) :
    Code.wp Tryz.prog codeVk22 QQ ⟨#[v0, v1, .pointer (some ⟨P, 0, none⟩), v3, v4, v5, v6, v7, v8, v9, v10, v11, v12, .slice va vn vc, .int .i64 (i : Int), v15, v16, v17, v18, v19, v20, v21, 
      v22, v23, v24, v25, v26, v27, v28, v29, v30, v31, v32, v33, v34, v35, v36, v37, v38, v39, v40, v41, v42, v43, v44, v45, v46, v47, v48, v49, v50, v51, v52, 
      v53, v54, v55, v56, v57, v58, v59, v60, v61, v62, v63, v64, v65, v66, v67, v68, v69, v70, v71, v72, v73, v74, v75, v76, v77, v78, v79, v80, v81, v82, v83, 
      v84, v85, v86, v87, v88, v89, v90, v91, v92, v93, v94, v95, v96, v97, v98, v99, v100, v101, v102, v103, v104, v105, v106, v107, v108, v109, v110, v111, 
      v112, v113, v114, v115, v116, v117, v118, v119, v120, v121, v122, v123, v124, v125, v126, v127, v128, v129, v130, v131, v132, v133, v134, v135, v136, v137, 
      v138, v139, v140, v141, v142, v143, v144, v145, v146, v147], []⟩ X0 := by
  have hmz : (m : Int) < (n4 : Int) := by omega
  have hm0 : (0 : Int) ≤ (m : Int) := by omega
  conv => arg 2; whnf
  refine wp_region_noPanic ?_
  refine wp_region_held (S := fun w' => w'.cell? ⟨P, 0, none⟩ = some (.int .i64 z) ∧ w'.cell? ⟨P, 1, none⟩ = some (.slice a1 n1 c1) ∧ w'.cell? ⟨P, 2, none⟩ = some (.slice a2 n2 c2) ∧ w'.cell? ⟨P, 3, none⟩ = some (.slice a3 n3 c3) ∧ w'.cell? ⟨P, 4, none⟩ = some (.slice (some ⟨bb, bo, none⟩) n4 c4) ∧ w'.cell? ⟨P, 5, none⟩ = some (.slice a5 n5 c5) ∧ w'.cell? ⟨bb, bo + m, none⟩ = some (.int .u32 (lit : Int))) (by kernel_rfl) ?_
  generalize hYY : ({ X0 with drawn := X0.drawn + 1 } : World) = Y0
  have hY0 : Below X0.heap.size X0 Y0 := by subst hYY; exact (Below.refl _ _).drew
  have HC1 := Lib.hid (HC0.out Y0 hY0)
  have HSD := Lib.hid (HELDB.out Y0 hY0)
  have HY0 := Lib.hid hY0
  clear hYY hY0
  refine wpAnyH_take (i := 0) (v := ?_) (by simp only [List.getElem?_toArray, List.getElem?_cons_zero]; rfl) (by kernel_rfl) (by kernel_rfl) (by kernel_rfl) (fun _ _ _ h => h) (Or.inl ⟨by rfl, ?_⟩) HSD.out ?_
  rotate_left
  · intro w hSw
    (try dsimp only at hSw)
    obtain ⟨q0_, q1_, q2_, q3_, q4_, q5_, q6_⟩ := hSw
    go_simp
    try with_reducible rfl
  try simp only [Act.put, List.setIfInBounds_toArray, List.set_cons_zero, List.set_cons_succ]
  refine wpAnyH_take (i := 1) (v := ?_) (by simp only [List.getElem?_toArray, List.getElem?_cons_zero, List.getElem?_cons_succ]; rfl) (by kernel_rfl) (by kernel_rfl) (by kernel_rfl) (fun _ _ _ h => h) (Or.inl ⟨by rfl, ?_⟩) HSD.out ?_
  rotate_left
  · intro w hSw
    (try dsimp only at hSw)
    obtain ⟨q0_, q1_, q2_, q3_, q4_, q5_, q6_⟩ := hSw
    go_simp
    try with_reducible rfl
  try simp only [Act.put, List.setIfInBounds_toArray, List.set_cons_zero, List.set_cons_succ]
  refine wpAnyH_take (i := 2) (v := ?_) (by simp only [List.getElem?_toArray, List.getElem?_cons_zero, List.getElem?_cons_succ]; rfl) (by kernel_rfl) (by kernel_rfl) (by kernel_rfl) (fun _ _ _ h => h) (Or.inl ⟨by rfl, ?_⟩) HSD.out ?_
  rotate_left
  · intro w hSw
    (try dsimp only at hSw)
    obtain ⟨q0_, q1_, q2_, q3_, q4_, q5_, q6_⟩ := hSw
    go_simp
    try with_reducible rfl
  try simp only [Act.put, List.setIfInBounds_toArray, List.set_cons_zero, List.set_cons_succ]
  refine wpAnyH_take (i := 3) (v := ?_) (by simp only [List.getElem?_toArray, List.getElem?_cons_zero, List.getElem?_cons_succ]; rfl) (by kernel_rfl) (by kernel_rfl) (by kernel_rfl) (fun _ _ _ h => h) (Or.inl ⟨by rfl, ?_⟩) HSD.out ?_
  rotate_left
  · intro w hSw
    (try dsimp only at hSw)
    obtain ⟨q0_, q1_, q2_, q3_, q4_, q5_, q6_⟩ := hSw
    go_simp
    try with_reducible rfl
  try simp only [Act.put, List.setIfInBounds_toArray, List.set_cons_zero, List.set_cons_succ]
  refine wpAnyH_take (i := 4) (v := ?_) (by simp only [List.getElem?_toArray, List.getElem?_cons_zero, List.getElem?_cons_succ]; rfl) (by kernel_rfl) (by kernel_rfl) (by kernel_rfl) (fun _ _ _ h => h) (Or.inl ⟨by rfl, ?_⟩) HSD.out ?_
  rotate_left
  · intro w hSw
    (try dsimp only at hSw)
    obtain ⟨q0_, q1_, q2_, q3_, q4_, q5_, q6_⟩ := hSw
    go_simp
    try with_reducible rfl
  try simp only [Act.put, List.setIfInBounds_toArray, List.set_cons_zero, List.set_cons_succ]
  refine wpAnyH_ready (rs := [5]) (by kernel_rfl) (by simp) ?_
  refine AllReadyH.cons (by simp only [List.getElem?_toArray, List.getElem?_cons_zero, List.getElem?_cons_succ]; rfl) (fun K hK => ?_) AllReadyH.nil
  go_simp
  refine HC1.out.mono ?_
  rintro e wx ⟨rfl, bx⟩
  have hwx := HY0.out.trans bx
  have HWX := Lib.hid hwx
  have HSD2 := Lib.hid (HELDB.out wx hwx)
  have HV1 := Lib.hid (HV0.out wx hwx)
  clear bx hwx HSD HY0 HC1
  refine hK.out _ _ HSD2.out (fun _ => ?_)
  clear hK K
  try simp only [Act.put, List.setIfInBounds_toArray, List.set_cons_zero, List.set_cons_succ]
  refine wpAnyH_take (i := 6) (v := ?_) (by simp only [List.getElem?_toArray, List.getElem?_cons_zero, List.getElem?_cons_succ]; rfl) (by kernel_rfl) (by kernel_rfl) (by kernel_rfl) (fun _ _ _ h => h) (Or.inl ⟨by rfl, ?_⟩) HSD2.out ?_
  rotate_left
  · intro w hSw
    (try dsimp only at hSw)
    obtain ⟨q0_, q1_, q2_, q3_, q4_, q5_, q6_⟩ := hSw
    go_simp
    try with_reducible rfl
  try simp only [Act.put, List.setIfInBounds_toArray, List.set_cons_zero, List.set_cons_succ]
  refine wpAnyH_take (i := 7) (v := ?_) (by simp only [List.getElem?_toArray, List.getElem?_cons_zero, List.getElem?_cons_succ]; rfl) (by kernel_rfl) (by kernel_rfl) (by kernel_rfl) (fun _ _ _ h => h) (Or.inl ⟨by rfl, ?_⟩) HSD2.out ?_
  rotate_left
  · intro w hSw
    (try dsimp only at hSw)
    obtain ⟨q0_, q1_, q2_, q3_, q4_, q5_, q6_⟩ := hSw
    go_simp
    try with_reducible rfl
  try simp only [Act.put, List.setIfInBounds_toArray, List.set_cons_zero, List.set_cons_succ]
  refine wpAnyH_take (i := 8) (v := ?_) (by simp only [List.getElem?_toArray, List.getElem?_cons_zero, List.getElem?_cons_succ]; rfl) (by kernel_rfl) (by kernel_rfl) (by kernel_rfl) (fun _ _ _ h => h) (Or.inl ⟨by rfl, ?_⟩) HSD2.out ?_
  rotate_left
  · intro w hSw
    (try dsimp only at hSw)
    obtain ⟨q0_, q1_, q2_, q3_, q4_, q5_, q6_⟩ := hSw
    go_simp
    try with_reducible rfl
  try simp only [Act.put, List.setIfInBounds_toArray, List.set_cons_zero, List.set_cons_succ]
  refine wpAnyH_ready (rs := [9]) (by kernel_rfl) (by simp) ?_
  refine AllReadyH.cons (by simp only [List.getElem?_toArray, List.getElem?_cons_zero, List.getElem?_cons_succ]; rfl) (fun K hK => ?_) AllReadyH.nil
  go_simp
  refine HV1.out.mono ?_
  rintro e wy ⟨rfl, rfl⟩
  refine hK.out _ _ HSD2.out (fun _ => ?_)
  clear hK K
  try simp only [Act.put, List.setIfInBounds_toArray, List.set_cons_zero, List.set_cons_succ]
  refine wpAnyH_take (i := 10) (v := ?_) (by simp only [List.getElem?_toArray, List.getElem?_cons_zero, List.getElem?_cons_succ]; rfl) (by kernel_rfl) (by kernel_rfl) (by kernel_rfl) (fun _ _ _ h => h) (Or.inl ⟨by rfl, ?_⟩) HSD2.out ?_
  rotate_left
  · intro w hSw
    (try dsimp only at hSw)
    obtain ⟨q0_, q1_, q2_, q3_, q4_, q5_, q6_⟩ := hSw
    go_simp
    try with_reducible rfl
  try simp only [Act.put, List.setIfInBounds_toArray, List.set_cons_zero, List.set_cons_succ]
  refine wpAnyH_done (by kernel_rfl) ?_ _
  refine NoPanic.normal ?_
  exact hK _ _ _ _ _ _ _ _ _ _ _ HWX.out
end Go.Proofs.YtgplkpfdbiapaaaGreatDoor
