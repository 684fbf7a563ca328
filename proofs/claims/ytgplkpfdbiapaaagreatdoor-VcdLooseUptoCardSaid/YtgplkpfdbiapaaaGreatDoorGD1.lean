/- inquestref03.lits, .values, by their contracts. -/
import Derived.Test.YtgplkpfdbiapaaaGreatDoorLib
import Derived.Test.YtgplkpfdbiapaaaGreatDoorGA3
import Derived.Test.YtgplkpfdbiapaaaGreatDoorGA1
import Derived.Test.YtgplkpfdbiapaaaGreatDoorNHeap
import Derived.Test.YtgplkpfdbiapaaaGreatDoorGB
import Derived.Test.YtgplkpfdbiapaaaGreatDoorRows
import Derived.Test.YtgplkpfdbiapaaaGreatDoorShelf
import Derived.BigQuiet
import Derived.Deep.AppendLies
import Derived.Deep.CutRange
import Derived.Deep.QuietTactic
import Derived.Deep.RegionHeld3
import Derived.Deep.RegionLaw
import Derived.Deep.RegionWith
import Derived.KernelRfl
import Derived.Laws.Bits64b
import Derived.Laws.BitsAllLaws
import Derived.Laws.BitsLemmas
import Derived.Laws.EntriesVeiled
import Derived.Laws.Tables
import Derived.Lib.AppendStr
import Derived.Lib.AppendZeros
import Derived.Lib.ConvBytes
import Derived.Lib.Hide
import Derived.Lib.SlBytesRow
import Derived.Lib.SmallJoins
import Derived.LoopIn
import Derived.LoopNIn
import Derived.Maps.AppendAt
import Derived.OrdersHeld
import Derived.OrdersIn
import Derived.OwnWalkIn
import Derived.RangeFuncBox
import Derived.RangeFuncCalls
import Derived.RangeFuncLeaves
import Derived.RangeFuncNested
import Derived.RangeFuncWrites
import Derived.Shelf.Abstract
import Derived.Shelf.Bytes.SlSmallAll
import Derived.Shelf.RegionOpen
import Derived.Sort.CutIn
import Derived.Stop.RegionWithIn
import Derived.TacticsInMore
import Derived.WalkKit
import Derived.WalkLawsBesides
import Derived.WalkSpells
import Derived.Test.YtgplkpfdbiapaaaGreatDoorNBase
import Derived.Test.YtgplkpfdbiapaaaGreatDoorGA4
/- sim.Surely, by its contract. -/
namespace Go.Proofs.YtgplkpfdbiapaaaGreatDoor
open Go Go.RowKit Go.Joins

/-- What a trace that fits is. -/
structure FitsC (c : NormC) (t : TraceC) : Prop where
  may : MayC c
  pos : 0 ≤ t.bad
  bad : t.bad.toNat < c.bads.length
  init : t.init.length = c.lats.length
  inits : ∀ u ∈ t.init, u.toNat ≤ 2
  resets : ∀ i, i < c.lats.length → (c.lats.getD i (0, 0)).2 = 2 ∨ (t.init.getD i 0).toNat = (c.lats.getD i (0, 0)).2
  one : 1 ≤ t.frames.length
  few : t.frames.length ≤ 256
  frames : ∀ k, k < t.frames.length → ((t.frames.getD k []).length : Int) = c.ins
  values : ∀ f ∈ t.frames, ∀ u ∈ f, u.toNat ≤ 2
theorem fits_iff {c : NormC} {t : TraceC} : fitsS c t = true ↔ FitsC c t := by
  unfold fitsS valsOk initOk
  simp only [Bool.and_eq_true, Bool.not_eq_true', Bool.or_eq_false_iff, decide_eq_true_eq, decide_eq_false_iff_not, List.any_eq_false, List.all_eq_true, List.mem_range, Bool.or_eq_true, mayC_iff]
  constructor
  · rintro ⟨h1, ⟨h2, h3⟩, ⟨h4, h5⟩, h6, h7, h8, h9⟩
    refine ⟨h1, by omega, by omega, by omega, fun u hu => by have := h5 u hu; omega, fun i hi => h6 i hi, h7, h8, fun k hk => (h9 _ (getD_mem hk)).1, fun f hf u hu => by have := (h9 f hf).2 u hu; omega⟩
  · intro h
    refine ⟨h.may, ⟨by have := h.pos; omega, by have := h.bad; have := h.pos; omega⟩, ⟨by have := h.init; omega, fun u hu => by have := h.inits u hu; omega⟩, h.resets, h.one, h.few, fun f hf => ⟨?_, fun u hu => by have := h.values f hf u hu; omega⟩⟩
    obtain ⟨k, hk, he⟩ := List.getElem_of_mem hf
    have := h.frames k hk
    simpa [List.getD, List.getElem?_eq_getElem hk, he] using this

theorem keep63 {w : World} {x y : Nat} {a0 a1 a2 a3 a4 a5 b0 b1 b2 : Value} {T1 T2 : TypeId} (hx : w.heap[x]? = some (.cells #[a0, a1, a2, a3, a4, a5] T1 (0, 0))) (hy : w.heap[y]? = some (.cells #[b0, b1, b2] T2 (0, 0))) :
    w.cell? ⟨x, 0, none⟩ = some a0 ∧ w.cell? ⟨x, 1, none⟩ = some a1 ∧ w.cell? ⟨x, 2, none⟩ = some a2 ∧ w.cell? ⟨x, 3, none⟩ = some a3 ∧ w.cell? ⟨x, 4, none⟩ = some a4 ∧ w.cell? ⟨x, 5, none⟩ = some a5 ∧ w.cell? ⟨y, 0, none⟩ = some b0 ∧ w.cell? ⟨y, 1, none⟩ = some b1 ∧ w.cell? ⟨y, 2, none⟩ = some b2 :=
  ⟨cell_of_block hx 0, cell_of_block hx 1, cell_of_block hx 2, cell_of_block hx 3, cell_of_block hx 4, cell_of_block hx 5, cell_of_block hy 0, cell_of_block hy 1, cell_of_block hy 2⟩

/-- What Surely answers. -/
def surelyE (c : NormC) (t : TraceC) : Ending := if fitsS c t = true then .returned (.tuple #[bv (k1.verdict c t.bad.toNat t.init t.frames), .int .i64 0]) else .returned (.tuple #[.int .u8 0, .int .i64 2])

end Go.Proofs.YtgplkpfdbiapaaaGreatDoor
/- inquestref03.lits, by its contract. -/
namespace Go.Proofs.YtgplkpfdbiapaaaGreatDoor
open Go Go.RowKit Go.Joins
set_option maxRecDepth 100000 in
theorem reflits_any (m : Nat) (l : List Nat) (a : Option Addr) (n c : Nat) (hn : n ≤ 1048576) (hx : ∀ x ∈ l, x < 4294967296) (w : World) (h : Sees w a n c (l.map nv32)) :
    Calls Tryz.prog 41 #[.slice a n c, .int .i64 (m : Int)] w fun e w' => e = .returned (.bool (!badList m l)) ∧ w = w' := by
  have hl := h.lenMap
  obtain ⟨q, hq⟩ : ∃ q, q = badList m l := ⟨_, rfl⟩
  have NO : Hid (∀ k, k < n → m < l.getD k 0 / 2 → q = true) := fun k hk hb => by
    rw [hq]; unfold badList
    rw [show l.any (above m) = true from List.any_eq_true.2 ⟨l.getD k 0, getD_mem (by rw [hl]; exact hk), by unfold above; exact decide_eq_true (by omega)⟩]; simp
  have YES : Hid ((∀ k, k < n → ¬ m < l.getD k 0 / 2) → q = decide (1024 < n)) := fun hh => by
    rw [hq]; unfold badList
    rw [hl, show l.any (above m) = false from any_none (all_of_getD (d := 0) (fun j hj => by have := hh j (by rw [← hl]; exact hj); unfold above; exact decide_eq_false (by omega)))]; simp
  have HX := Lib.hid hx
  have HS := Lib.hid h
  have HL := Lib.hid hl
  rw [← hq]
  clear hq h hl hx
  go_enter Tryz.func41, Tryz.ntmps41
  go_wp2
  go_loop [5] (fun i => ∃ k : Nat, k ≤ n ∧ i = .int .i64 k ∧ Hid (∀ j, j < k → ¬ m < l.getD j 0 / 2)) (fun i => n - (intOf i).toNat)
  case atStart => exact ⟨0, Nat.zero_le _, rfl, fun j hj => absurd hj (by omega)⟩
  case round =>
    obtain ⟨k, hk, rfl, hno⟩ := hrel
    by_cases hlt : k < n
    · obtain ⟨b, off, rfl, hbw⟩ := HS.out.addr (by omega)
      have hcx := HS.out.num k hlt
      have h32 := HX.out (l.getD k 0) (getD_mem (by rw [HL.out]; exact hlt))
      obtain ⟨x, hx⟩ : ∃ x, x = l.getD k 0 := ⟨_, rfl⟩
      rw [← hx] at hcx h32
      have D1 : Int.tdiv (x : Int) 2 = ((x / 2 : Nat) : Int) := by rw [Int.tdiv_eq_ediv_of_nonneg (by omega)]; omega
      obtain ⟨u, hu⟩ : ∃ u, u = x / 2 := ⟨_, rfl⟩
      have hu3 : u < 4294967296 := by omega
      rw [← hu] at D1
      have U1 : IntKind.u32.wrap ((u : Nat) : Int) = (u : Int) := IntWalk.u32_in _ (by omega)
      have U2 : IntKind.i64.wrap ((u : Nat) : Int) = (u : Int) := IntWalk.i64_in _ (by omega)
      have HU : Hid (u = l.getD k 0 / 2) := by show _ = _; rw [hu, hx]
      have W1 : IntKind.i64.wrap ((k : Int) + 1) = (k : Int) + 1 := IntWalk.i64_in _ (by omega)
      clear hx hu
      by_cases hq : m < u
      · have e1 : decide ((m : Int) < (u : Int)) = true := by simp; omega
        have HQ : Hid (q = true) := NO.out k hlt (by rw [← HU.out]; exact hq)
        go_wp2
        go_ret
        exact ⟨by rw [HQ.out]; rfl, rfl⟩
      · have e1 : decide ((m : Int) < (u : Int)) = false := by simp; omega
        have HQ := Lib.hid hq
        clear hq
        go_wp2
        go_round
        case rel =>
          refine ⟨k + 1, by omega, by go_num, fun j hj => ?_⟩
          rcases Nat.lt_or_ge j k with h | h
          · exact hno.out j h
          · have : j = k := by omega
            subst this
            rw [← HU.out]; exact HQ.out
        case measure => simp [intOf]; omega
    · have hkn : k = n := by omega
      subst hkn
      have Y := Lib.hid (YES.out hno.out)
      by_cases hq : k ≤ 1024
      · have e1 : decide ((k : Int) ≤ 1024) = true := by simp; omega
        have HQ := Lib.hid hq
        clear hq
        go_wp2
        go_ret
        exact ⟨by rw [Y.out]; simp; exact HQ.out, rfl⟩
      · have e1 : decide ((k : Int) ≤ 1024) = false := by simp; omega
        have HQ := Lib.hid hq
        clear hq
        go_wp2
        go_ret
        exact ⟨by rw [Y.out]; have := HQ.out; simp; omega, rfl⟩
end Go.Proofs.YtgplkpfdbiapaaaGreatDoor
/- inquestref03.May, by its contract. -/
namespace Go.Proofs.YtgplkpfdbiapaaaGreatDoor
open Go Go.RowKit Go.Joins

theorem any_getD {α : Type} {l : List α} {p : α → Bool} {d : α} {k : Nat} (hk : k < l.length) (h : p (l.getD k d) = true) : l.any p = true := List.any_eq_true.2 ⟨l.getD k d, getD_mem hk, h⟩
theorem any_noD {α : Type} {l : List α} {p : α → Bool} {d : α} {n : Nat} (hn : l.length = n) (h : ∀ k, k < n → p (l.getD k d) = false) : l.any p = false := any_none (all_of_getD (d := d) (fun j hj => h j (by rw [← hn]; exact hj)))

set_option maxRecDepth 100000 in
set_option maxHeartbeats 3200000 in
theorem refmay3_any (c : NormC) (s : CSlots) (w : World) (h : SeesCir w s c) (hs : s.small) (hlo : -9223372036854775808 ≤ c.ins) (hhi : c.ins < 9223372036854775808) (hw : Wide c) :
    Calls Tryz.prog 21 #[cirV c.ins s] w fun e w' => e = .returned (.bool (mayC c)) ∧ Below w.heap.size w w' := by
  obtain ⟨a1, n1, c1, a2, n2, c2, a3, n3, c3, a4, n4, c4, a5, n5, c5⟩ := s
  obtain ⟨hs1, hs2, hs3, hs4, hs5⟩ := hs
  simp only at hs1 hs2 hs3 hs4 hs5
  have L1 : Hid (c.lats.length = n1) := h.s1.1
  have L2 : Hid (c.gates.length = n2) := h.s2.1
  obtain ⟨z, hz⟩ : ∃ z, z = c.ins := ⟨_, rfl⟩
  obtain ⟨q, hq⟩ : ∃ q, q = mayC c := ⟨_, rfl⟩
  rw [← hz] at hlo hhi
  have HW := Lib.hid hw
  have HS := Lib.hid h
  rw [← hz, ← hq]
  have N0 : Hid (z < 0 → q = false) := fun t => by rw [hq]; unfold mayC tooMany; rw [← hz, decide_eq_true t]; rfl
  have N1 : Hid (16384 - z < ((n1 + n2 : Nat) : Int) → q = false) := fun t => by rw [hq]; unfold mayC tooMany; rw [← hz, L1.out, L2.out, decide_eq_true t]; simp
  unfold cirV
  by_cases t : z < 0
  · have e : decide (z < 0) = true := by simpa using t
    have HF : Hid (q = false) := N0.out t
    clear hz hq
    go_enter Tryz.func21, Tryz.ntmps21
    go_wp2
    go_ret
    exact ⟨by rw [HF.out]; rfl, ext_alloc _ _⟩
  obtain ⟨i, rfl⟩ := Int.eq_ofNat_of_zero_le (show 0 ≤ z by omega)
  have e0 : decide ((i : Int) < 0) = false := by simp
  clear t
  by_cases t : 16384 < i
  · have e : decide ((16384 : Int) < (i : Int)) = true := by simp; omega
    have HF : Hid (q = false) := N1.out (by omega)
    clear hz hq
    go_enter Tryz.func21, Tryz.ntmps21
    go_wp2
    go_ret
    exact ⟨by rw [HF.out]; rfl, ext_alloc _ _⟩
  have e1 : decide ((16384 : Int) < (i : Int)) = false := by simp; omega
  have t1 := t
  clear t
  by_cases t : 16384 < n1
  · have e : decide ((16384 : Int) < (n1 : Int)) = true := by simp; omega
    have HF : Hid (q = false) := N1.out (by omega)
    clear hz hq
    go_enter Tryz.func21, Tryz.ntmps21
    go_wp2
    go_ret
    exact ⟨by rw [HF.out]; rfl, ext_alloc _ _⟩
  have e2 : decide ((16384 : Int) < (n1 : Int)) = false := by simp; omega
  have t2 := t
  clear t
  by_cases t : 16384 < n2
  · have e : decide ((16384 : Int) < (n2 : Int)) = true := by simp; omega
    have HF : Hid (q = false) := N1.out (by omega)
    clear hz hq
    go_enter Tryz.func21, Tryz.ntmps21
    go_wp2
    go_ret
    exact ⟨by rw [HF.out]; rfl, ext_alloc _ _⟩
  have e3 : decide ((16384 : Int) < (n2 : Int)) = false := by simp; omega
  have t3 := t
  clear t
  have U1 : IntKind.i64.wrap ((i : Int) + (n1 : Int)) = (i : Int) + (n1 : Int) := IntWalk.i64_in _ (by omega)
  have U2 : IntKind.i64.wrap ((i : Int) + (n1 : Int) + (n2 : Int)) = (i : Int) + (n1 : Int) + (n2 : Int) := IntWalk.i64_in _ (by omega)
  by_cases t : 16384 < i + n1 + n2
  · have e : decide ((16384 : Int) < (i : Int) + (n1 : Int) + (n2 : Int)) = true := by simp; omega
    have HF : Hid (q = false) := N1.out (by omega)
    clear hz hq
    go_enter Tryz.func21, Tryz.ntmps21
    go_wp2
    go_ret
    exact ⟨by rw [HF.out]; rfl, ext_alloc _ _⟩
  have e4 : decide ((16384 : Int) < (i : Int) + (n1 : Int) + (n2 : Int)) = false := by simp; omega
  obtain ⟨m, hm⟩ : ∃ m, m = i + n1 + n2 := ⟨_, rfl⟩
  have hv : mayC c = (!badList m c.outs && (!badList m c.bads && (!badList m c.cons && (!c.lats.any (badLat2 m) && !badGates (1 + i + c.lats.length) c.gates)))) := by
    have e3 : varsN c = m := by unfold varsN; rw [← hz, L1.out, L2.out, hm]; simp
    unfold mayC tooMany
    rw [e3, ← hz, L1.out, L2.out, show decide ((i : Int) < 0) = false by simp, show decide (16384 - (i : Int) < ((n1 + n2 : Nat) : Int)) = false from decide_eq_false (by omega)]
    simp
  rw [← hq] at hv
  have NL : Hid (∀ k, k < n1 → badLat2 m (c.lats.getD k (0, 0)) = true → q = false) := fun k hk hb => by
    rw [hv, any_getD (by rw [L1.out]; exact hk) hb]; simp
  have NG : Hid (∀ k, k < n2 → badGate2 (1 + i + n1 + k) (c.gates.getD k (0, 0)) = true → q = false) := fun k hk hb => by
    rw [hv, (badGates_at c.gates (1 + i + c.lats.length)).2 ⟨k, by rw [L2.out]; exact hk, by rw [L1.out]; exact hb⟩]; simp
  have YES : Hid ((∀ k, k < n1 → badLat2 m (c.lats.getD k (0, 0)) = false) → (∀ k, k < n2 → badGate2 (1 + i + n1 + k) (c.gates.getD k (0, 0)) = false) → q = (!badList m c.outs && (!badList m c.bads && !badList m c.cons))) := fun h1 h2 => by
    rw [hv, any_noD L1.out h1, badGates_no.2 (fun k hk => by rw [L1.out]; exact h2 k (by rw [← L2.out]; exact hk))]; simp
  have hm16 : m ≤ 16384 := by omega
  have HM := Lib.hid hm
  clear hv hz hq hm t N0 N1
  go_enter Tryz.func21, Tryz.ntmps21
  go_upto_region 6 with fail
  clear e0 e1 e2 e3 e4 t1 t2 t3
  generalize hW : World.alloc _ _ = W1
  rw [show (i : Int) + (n1 : Int) + (n2 : Int) = (m : Int) by have := HM.out; omega]
  have B1 : Below w.heap.size w W1 := by subst hW; exact ext_alloc _ _
  have hX : W1.heap[w.heap.size]? = some (.cells #[.int .i64 i, .slice a1 n1 c1, .slice a2 n2 c2, .slice a3 n3 c3, .slice a4 n4 c4, .slice a5 n5 c5] 26 (0, 0)) := by subst hW; exact heap_new _ _ _ rfl
  clear hW U1 U2
  have HB1 := Lib.hid B1
  have HX := Lib.hid hX
  have HS := Lib.hid (HS.out.below B1)
  clear B1 hX
  go_wp2
  go_loopw [4] (fun ii wr => ∃ k : Nat, k ≤ n1 ∧ ii = .int .i64 k ∧ Hid (∀ j, j < k → badLat2 m (c.lats.getD j (0, 0)) = false) ∧ Hid (Below W1.heap.size W1 wr)) (fun ii _ => n1 - (intOf ii).toNat)
  case atStart => exact ⟨0, Nat.zero_le _, rfl, fun j hj => absurd hj (by omega), Below.refl _ _⟩
  case round =>
    obtain ⟨k, hk, rfl, hno, hB⟩ := hrel
    have p := cell_of_block (heap_below HX.out hB.out) 1
    by_cases hlt : k < n1
    · obtain ⟨b, off, rfl, hbw⟩ := HS.out.s1.addr (show 0 < n1 by omega)
      obtain ⟨qx, qy⟩ := (HS.out.s1.below hB.out).cells k hlt (0, 0)
      have hbad := NL.out k hlt
      have hwd := HW.out.lats (c.lats.getD k (0, 0)) (getD_mem (by rw [L1.out]; exact hlt))
      obtain ⟨t, ht⟩ : ∃ t, t = c.lats.getD k (0, 0) := ⟨_, rfl⟩
      rw [← ht] at qx qy hbad hwd
      have STEP : Hid (badLat2 m t = false → ∀ j, j < k + 1 → badLat2 m (c.lats.getD j (0, 0)) = false) := fun hq j hj => by
        rcases Nat.lt_or_ge j k with h | h
        · exact hno.out j h
        · have : j = k := by omega
          subst this
          rw [← ht]; exact hq
      clear ht
      obtain ⟨x, y⟩ := t
      simp only [nv32, nv8] at qx qy
      simp only at hwd
      obtain ⟨hw1, hw2⟩ := hwd
      have W1' : IntKind.i64.wrap ((k : Int) + 1) = (k : Int) + 1 := IntWalk.i64_in _ (by omega)
      have D1 : Int.tdiv (x : Int) 2 = ((x / 2 : Nat) : Int) := by rw [Int.tdiv_eq_ediv_of_nonneg (by omega)]; omega
      obtain ⟨u, hu⟩ : ∃ u, u = x / 2 := ⟨_, rfl⟩
      have hu3 : u < 4294967296 := by omega
      rw [← hu] at D1
      have U1 : IntKind.u32.wrap ((u : Nat) : Int) = (u : Int) := IntWalk.u32_in _ (by omega)
      have U2 : IntKind.i64.wrap ((u : Nat) : Int) = (u : Int) := IntWalk.i64_in _ (by omega)
      have HU : Hid (above m x = decide (m < u)) := by show _ = _; unfold above; exact decide_eq_decide.2 (by omega)
      have HBAD := Lib.hid hbad
      have HBB := Lib.hid hB.out
      clear hbad hB hno hu
      by_cases b1 : m < u
      · have hb : Hid (q = false) := HBAD.out (by unfold badLat2; rw [HU.out, decide_eq_true b1]; rfl)
        have g1 : decide ((m : Int) < (u : Int)) = true := by simp; omega
        go_wp2
        go_ret
        exact ⟨by rw [hb.out]; rfl, ext_trans HB1.out HBB.out⟩
      have g1 : decide ((m : Int) < (u : Int)) = false := by simp; omega
      by_cases b2 : 2 < y
      · have hb : Hid (q = false) := HBAD.out (by unfold badLat2; simp only; rw [decide_eq_true b2]; simp)
        have g2 : decide ((2 : Int) < (y : Int)) = true := by simp; omega
        go_wp2
        go_ret
        exact ⟨by rw [hb.out]; rfl, ext_trans HB1.out HBB.out⟩
      have g2 : decide ((2 : Int) < (y : Int)) = false := by simp; omega
      have HN := Lib.hid (STEP.out (by unfold badLat2; rw [HU.out]; simp only; rw [decide_eq_false b1, decide_eq_false b2]; rfl))
      clear STEP HBAD
      go_wp2
      go_roundw
      case rel => exact ⟨k + 1, by omega, by go_num, HN.out, HBB.out⟩
      case measure => simp [intOf]; omega
    · obtain rfl : n1 = k := by omega
      have YES := Lib.hid (YES.out hno.out)
      have HBL := Lib.hid hB.out
      clear hno hB hlt hk NL
      go_wp2
      clear p
      go_loopw [5] (fun ii wr => ∃ k : Nat, k ≤ n2 ∧ ii = .int .i64 k ∧ Hid (∀ j, j < k → badGate2 (1 + i + n1 + j) (c.gates.getD j (0, 0)) = false) ∧ Hid (Below W1.heap.size W1 wr)) (fun ii _ => n2 - (intOf ii).toNat)
      case atStart => exact ⟨0, Nat.zero_le _, rfl, fun j hj => absurd hj (by omega), HBL.out⟩
      case round =>
        clear HBL
        obtain ⟨k, hk, rfl, hno, hB⟩ := hrel
        have p2 := cell_of_block (heap_below HX.out hB.out) 2
        by_cases hlt : k < n2
        · obtain ⟨b, off, rfl, hbw⟩ := HS.out.s2.addr (show 0 < n2 by omega)
          obtain ⟨qx, qy⟩ := (HS.out.s2.below hB.out).cells k hlt (0, 0)
          have hbad := NG.out k hlt
          have hwd := HW.out.gates (c.gates.getD k (0, 0)) (getD_mem (by rw [L2.out]; exact hlt))
          obtain ⟨t, ht⟩ : ∃ t, t = c.gates.getD k (0, 0) := ⟨_, rfl⟩
          rw [← ht] at qx qy hbad hwd
          have STEP : Hid (badGate2 (1 + i + n1 + k) t = false → ∀ j, j < k + 1 → badGate2 (1 + i + n1 + j) (c.gates.getD j (0, 0)) = false) := fun hq j hj => by
            rcases Nat.lt_or_ge j k with h | h
            · exact hno.out j h
            · have : j = k := by omega
              subst this
              rw [← ht]; exact hq
          clear ht
          obtain ⟨x, y⟩ := t
          simp only [nv32] at qx qy
          simp only at hwd
          obtain ⟨hw1, hw2⟩ := hwd
          go_upto_region 15 with fail
          generalize hW : World.alloc wr _ = Wg
          have Bg : Below wr.heap.size wr Wg := by subst hW; exact ext_alloc _ _
          have hG : Wg.heap[wr.heap.size]? = some (.cells #[.int .u32 x, .int .u32 y] 100 (0, 0)) := by subst hW; exact heap_new _ _ _ rfl
          have HBB := Lib.hid (ext_trans hB.out Bg)
          have r0 : Wg.cell? ⟨wr.heap.size, 0, none⟩ = some (.int .u32 x) := cell_of_block hG 0
          have r1 : Wg.cell? ⟨wr.heap.size, 1, none⟩ = some (.int .u32 y) := cell_of_block hG 1
          have p0 := cell_of_block (heap_below HX.out HBB.out) 0
          have p1 := cell_of_block (heap_below HX.out HBB.out) 1
          clear hW hG Bg qx qy p2 hbw
          have W1' : IntKind.i64.wrap ((k : Int) + 1) = (k : Int) + 1 := IntWalk.i64_in _ (by omega)
          have D1 : Int.tdiv (x : Int) 2 = ((x / 2 : Nat) : Int) := by rw [Int.tdiv_eq_ediv_of_nonneg (by omega)]; omega
          obtain ⟨u, hu⟩ : ∃ u, u = x / 2 := ⟨_, rfl⟩
          have hu3 : u < 4294967296 := by omega
          rw [← hu] at D1
          have U1 : IntKind.u32.wrap ((u : Nat) : Int) = (u : Int) := IntWalk.u32_in _ (by omega)
          have U2 : IntKind.i64.wrap ((u : Nat) : Int) = (u : Int) := IntWalk.i64_in _ (by omega)
          have V1 : IntKind.i64.wrap ((i : Int) + (n1 : Int)) = (i : Int) + (n1 : Int) := IntWalk.i64_in _ (by have := HM.out; omega)
          have V2 : IntKind.i64.wrap ((i : Int) + (n1 : Int) + 1) = (i : Int) + (n1 : Int) + 1 := IntWalk.i64_in _ (by have := HM.out; omega)
          have V3 : IntKind.i64.wrap ((i : Int) + (n1 : Int) + 1 + (k : Int)) = (i : Int) + (n1 : Int) + 1 + (k : Int) := IntWalk.i64_in _ (by have := HM.out; omega)
          have HU : Hid (decide (2 * (1 + i + n1 + k) ≤ x) = decide (i + n1 + 1 + k ≤ u)) := by show _ = _; exact decide_eq_decide.2 (by omega)
          have HBAD := Lib.hid hbad
          clear hbad hB hno hu
          by_cases b1 : i + n1 + 1 + k ≤ u
          · have hb : Hid (q = false) := HBAD.out (by unfold badGate2; simp only; rw [HU.out, decide_eq_true b1]; simp)
            have g1 : decide ((i : Int) + (n1 : Int) + 1 + (k : Int) ≤ (u : Int)) = true := by simp; omega
            go_wp2
            go_ret
            exact ⟨by rw [hb.out]; rfl, ext_trans HB1.out HBB.out⟩
          have g1 : decide ((i : Int) + (n1 : Int) + 1 + (k : Int) ≤ (u : Int)) = false := by simp; omega
          by_cases b2 : x < y
          · have hb : Hid (q = false) := HBAD.out (by unfold badGate2; simp only; rw [decide_eq_true b2]; rfl)
            have g2 : decide ((x : Int) < (y : Int)) = true := by simp; omega
            go_wp2
            go_ret
            exact ⟨by rw [hb.out]; rfl, ext_trans HB1.out HBB.out⟩
          have g2 : decide ((x : Int) < (y : Int)) = false := by simp; omega
          have HN := Lib.hid (STEP.out (by unfold badGate2; simp only; rw [HU.out, decide_eq_false b1, decide_eq_false b2]; rfl))
          clear STEP HBAD
          go_wp2
          go_roundw
          case rel => exact ⟨k + 1, by omega, by go_num, HN.out, HBB.out⟩
          case measure => simp [intOf]; omega
        · obtain rfl : n2 = k := by omega
          have YES := Lib.hid (YES.out hno.out)
          have HBL := Lib.hid hB.out
          have hxw := heap_below HX.out hB.out
          have p3 := cell_of_block hxw 3
          have p4 := cell_of_block hxw 4
          have p5 := cell_of_block hxw 5
          have HSR := Lib.hid (HS.out.below hB.out)
          clear hno hB hlt hk NG hxw
          obtain ⟨q3, h3⟩ : ∃ q, q = badList m c.outs := ⟨_, rfl⟩
          obtain ⟨q4, h4⟩ : ∃ q, q = badList m c.bads := ⟨_, rfl⟩
          obtain ⟨q5, h5⟩ : ∃ q, q = badList m c.cons := ⟨_, rfl⟩
          rw [← h3, ← h4, ← h5] at YES
          have C3 := Lib.hid (reflits_any m c.outs a3 n3 c3 hs3 HW.out.outs wr HSR.out.s3)
          have C4 := Lib.hid (reflits_any m c.bads a4 n4 c4 hs4 HW.out.bads wr HSR.out.s4)
          have C5 := Lib.hid (reflits_any m c.cons a5 n5 c5 hs5 HW.out.cons wr HSR.out.s5)
          rw [← h3] at C3
          rw [← h4] at C4
          rw [← h5] at C5
          clear h3 h4 h5 HSR
          go_wp2_with fail
          refine C3.out.mono ?_
          rintro e w' ⟨rfl, rfl⟩
          cases q3 with
          | true =>
            go_wp2
            go_ret
            exact ⟨by rw [YES.out]; simp, ext_trans HB1.out HBL.out⟩
          | false =>
          go_wp2_with fail
          refine C4.out.mono ?_
          rintro e w' ⟨rfl, rfl⟩
          cases q4 with
          | true =>
            go_wp2
            go_ret
            exact ⟨by rw [YES.out]; simp, ext_trans HB1.out HBL.out⟩
          | false =>
          go_wp2_with fail
          refine C5.out.mono ?_
          rintro e w' ⟨rfl, rfl⟩
          cases q5 with
          | true =>
            go_wp2
            go_ret
            exact ⟨by rw [YES.out]; simp, ext_trans HB1.out HBL.out⟩
          | false =>
          go_wp2
          go_ret
          exact ⟨by rw [YES.out]; rfl, ext_trans HB1.out HBL.out⟩
end Go.Proofs.YtgplkpfdbiapaaaGreatDoor
namespace Go.Proofs.YtgplkpfdbiapaaaGreatDoor
open Go Go.RowKit Go.Joins

set_option maxRecDepth 100000 in
theorem refvalues_any (many : Int) (l : List UInt8) (a : Option Addr) (n c : Nat) (hn : n ≤ 1048576) (w : World) (h : Sees w a n c (l.map bv)) :
    Calls Tryz.prog 22 #[.slice a n c, .int .i64 many] w fun e w' => e = .returned (.bool (valsOk l many)) ∧ w = w' := by
  have hl := h.lenMap
  obtain ⟨q, hq⟩ : ∃ q, q = valsOk l many := ⟨_, rfl⟩
  have NO : Hid (∀ k, k < n → 2 < (l.getD k 0).toNat → q = false) := fun k hk hb => by
    rw [hq]; unfold valsOk
    rw [show l.any (fun u => decide (2 < u.toNat)) = true from List.any_eq_true.2 ⟨_, getD_mem (by rw [hl]; exact hk), decide_eq_true hb⟩]; simp
  have YES : Hid ((∀ k, k < n → ¬ 2 < (l.getD k 0).toNat) → q = decide ((n : Int) = many)) := fun hh => by
    rw [hq]; unfold valsOk
    rw [hl, show l.any (fun u => decide (2 < u.toNat)) = false from any_none (all_of_getD (d := 0) (fun j hj => decide_eq_false (hh j (by rw [← hl]; exact hj))))]; simp
  have HS := Lib.hid h
  have HL := Lib.hid hl
  rw [← hq]
  clear hq h hl
  go_enter Tryz.func22, Tryz.ntmps22
  go_wp2
  go_loop [5] (fun i => ∃ k : Nat, k ≤ n ∧ i = .int .i64 k ∧ Hid (∀ j, j < k → ¬ 2 < (l.getD j 0).toNat)) (fun i => n - (intOf i).toNat)
  case atStart => exact ⟨0, Nat.zero_le _, rfl, fun j hj => absurd hj (by omega)⟩
  case round =>
    obtain ⟨k, hk, rfl, hno⟩ := hrel
    by_cases hlt : k < n
    · obtain ⟨b, off, rfl, hbw⟩ := HS.out.addr (by omega)
      have hcx := HS.out.byte k hlt
      have W1 : IntKind.i64.wrap ((k : Int) + 1) = (k : Int) + 1 := IntWalk.i64_in _ (by omega)
      obtain ⟨u, hu⟩ : ∃ u, u = (l.getD k 0).toNat := ⟨_, rfl⟩
      have hcx2 : w.cell? ⟨b, off + k, none⟩ = some (.int .u8 (u : Int)) := by rw [hu]; exact hcx
      have HU := Lib.hid hu
      clear hcx hu
      by_cases hq : 2 < u
      · have e1 : decide ((2 : Int) < (u : Int)) = true := by simp; omega
        have HQ : Hid (q = false) := NO.out k hlt (by rw [← HU.out]; exact hq)
        go_wp2
        go_ret
        exact ⟨by rw [HQ.out]; rfl, rfl⟩
      · have e1 : decide ((2 : Int) < (u : Int)) = false := by simp; omega
        have HQ := Lib.hid hq
        clear hq
        go_wp2
        go_round
        case rel =>
          refine ⟨k + 1, by omega, by go_num, fun j hj => ?_⟩
          rcases Nat.lt_or_ge j k with h | h
          · exact hno.out j h
          · have : j = k := by omega
            subst this
            rw [← HU.out]; exact HQ.out
        case measure => simp [intOf]; omega
    · have hkn : k = n := by omega
      subst hkn
      have Y := Lib.hid (YES.out hno.out)
      by_cases hq : (k : Int) = many
      · have e1 : ((k : Int) == many) = true := by simpa using hq
        have HQ := Lib.hid hq
        clear hq
        go_wp2
        go_ret
        exact ⟨by rw [Y.out]; have := HQ.out; simp [this], rfl⟩
      · have e1 : ((k : Int) == many) = false := by simpa using hq
        have e2 : ((k : Int) = many) = False := by simpa using hq
        have HQ := Lib.hid hq
        clear hq
        go_wp2
        go_ret
        exact ⟨by rw [Y.out]; have := HQ.out; simp [this], rfl⟩
end Go.Proofs.YtgplkpfdbiapaaaGreatDoor
