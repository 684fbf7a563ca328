/- The reference's Fails, by its contract. -/
import Derived.Test.YtdheldhecimfnaaLib
import Derived.Test.YtdheldhecimfnaaOwn
import Derived.Test.YtdheldhecimfnaaOwnStr
import Derived.Test.YtdheldhecimfnaaNSpec
import Derived.Test.YtdheldhecimfnaaNTrace
import Derived.Test.YtdheldhecimfnaaNCirc
import Derived.Test.YtdheldhecimfnaaNHeap
import Derived.Test.YtdheldhecimfnaaSRun
import Derived.Test.YtdheldhecimfnaaRows
import Derived.Test.YtdheldhecimfnaaShelf
import Derived.BigQuiet
import Derived.Deep.AppendLies
import Derived.Deep.CutRange
import Derived.Deep.QuietTactic
import Derived.Deep.RegionHeld3
import Derived.Deep.RegionLaw
import Derived.Deep.RegionWith
import Derived.KernelRfl
import Derived.Laws.Bits64b
import Derived.Laws.BitsAllLaws
import Derived.Laws.BitsLemmas
import Derived.Laws.EntriesVeiled
import Derived.Laws.Tables
import Derived.Lib.AppendStr
import Derived.Lib.AppendZeros
import Derived.Lib.ConvBytes
import Derived.Lib.Hide
import Derived.Lib.SlBytesRow
import Derived.Lib.SmallJoins
import Derived.LoopIn
import Derived.LoopNIn
import Derived.Maps.AppendAt
import Derived.OrdersHeld
import Derived.OrdersIn
import Derived.OwnWalkIn
import Derived.RangeFuncBox
import Derived.RangeFuncCalls
import Derived.RangeFuncLeaves
import Derived.RangeFuncNested
import Derived.RangeFuncWrites
import Derived.Shelf.Abstract
import Derived.Shelf.Bytes.SlSmallAll
import Derived.Shelf.RegionOpen
import Derived.Sort.CutIn
import Derived.Stop.RegionWithIn
import Derived.TacticsInMore
import Derived.WalkKit
import Derived.WalkLawsBesides
import Derived.WalkSpells
import Derived.Test.YtdheldhecimfnaaNBase
import Derived.Test.YtdheldhecimfnaaTBits
import Derived.BigRegion
import Derived.Test.YtdheldhecimfnaaRawPred
import Derived.Test.YtdheldhecimfnaaSSpec
import Derived.Test.YtdheldhecimfnaaRowStep
import Derived.Test.YtdheldhecimfnaaNVal
import Derived.Test.YtdheldhecimfnaaNOwns
import Derived.Test.YtdheldhecimfnaaNHeap2
import Derived.Test.YtdheldhecimfnaaNWide
import Derived.Test.YtdheldhecimfnaaNRefMay3
import Derived.Test.YtdheldhecimfnaaNClone2
import Derived.Test.YtdheldhecimfnaaNOwnsN
import Derived.Test.YtdheldhecimfnaaNStep
import Derived.Test.YtdheldhecimfnaaCoE
import Derived.Test.YtdheldhecimfnaaNCopyTr
import Derived.Test.YtdheldhecimfnaaCoT
import Derived.Test.YtdheldhecimfnaaNPeel
import Derived.Test.YtdheldhecimfnaaSVerd
/- sim.Run, by its contract. -/
namespace Go.Proofs.Ytdheldhecimfnaa
open Go Go.RowKit Go.Joins

theorem owns_base {w : World} {base base' sz : Nat} {e : TypeId} {v : Value} {n : Nat} {xs : List Value} (h : w.ownsRow base e sz v n xs) (hb : base' ≤ base) : w.ownsRow base' e sz v n xs := by
  refine ⟨h.1, ?_⟩
  rcases h.2 with h2 | ⟨g, cap, cur, hv, hg, r⟩
  · exact .inl h2
  · exact .inr ⟨g, cap, cur, hv, Nat.le_trans hb hg, r⟩
/-- The run, list by list. -/
def runL (c : NormC) (t : TraceC) : List (List UInt8) := (List.range t.frames.length).map (varsAt c t)
/-- What Run answers. -/
def RunPost (c : NormC) (t : TraceC) (w : World) (e : Ending) (w' : World) : Prop :=
  (fitsS c t = true → ∃ (v : Value) (ss : List Slc), e = .returned (.tuple #[v, .int .i64 0]) ∧ ss.length = t.frames.length ∧ w'.ownsRow w.heap.size 27 1 v t.frames.length (ss.map slV) ∧ (∀ j, j < t.frames.length → Row isByte w' w.heap.size 5 (slV (ss.getD j slc0)) (varsAt c t j).length ((varsAt c t j).map bv))) ∧
  (fitsS c t = false → e = .returned (.tuple #[.slice none 0 0, .int .i64 2])) ∧ Below w.heap.size w w'
end Go.Proofs.Ytdheldhecimfnaa
/- sim: the values of a frame (single values), by its contract. -/
namespace Go.Proofs.Ytdheldhecimfnaa
open Go Go.RowKit Go.Joins

theorem vars_lt {V : Type} (c : NormC) (hm : MayC c) (st ins : List V) (h1 : st.length = c.lats.length) (h2 : (ins.length : Int) = c.ins) (i : Nat) (hi : i < c.gates.length) :
    (c.gates.getD i (0, 0)).1 / 2 < 1 + (ins.length + st.length) + i ∧ (c.gates.getD i (0, 0)).2 / 2 < 1 + (ins.length + st.length) + i ∧ (c.gates.getD i (0, 0)).1 < 4294967296 ∧ (c.gates.getD i (0, 0)).2 < 4294967296 := by
  have h := hm.gates i hi
  have hf := hm.few
  unfold varsN at hf
  rw [← h2, ← h1] at h hf
  simp only [Int.toNat_natCast] at h hf
  omega

theorem sees_box1 (w : World) (u : Value) (e : TypeId) : Sees (w.alloc (.cells #[u] e)) (some ⟨w.heap.size, 0, none⟩) 1 1 [u] :=
  ⟨rfl, Nat.le_refl _, (fun e => by cases e), fun _ => ⟨w.heap.size, 0, rfl, by simp, fun j hj => by
    obtain rfl : j = 0 := by omega
    exact (cell_of_block (heap_new w (.cells #[u] e) _ rfl) 0).trans rfl⟩⟩

theorem keep5 {w w' : World} {a0 a1 a2 a3 a4 : Addr} {v0 v1 v2 v3 v4 : Value} (h : w.cell? a0 = some v0 ∧ w.cell? a1 = some v1 ∧ w.cell? a2 = some v2 ∧ w.cell? a3 = some v3 ∧ w.cell? a4 = some v4) (hb : Below w.heap.size w w') :
    w'.cell? a0 = some v0 ∧ w'.cell? a1 = some v1 ∧ w'.cell? a2 = some v2 ∧ w'.cell? a3 = some v3 ∧ w'.cell? a4 = some v4 :=
  by
  obtain ⟨h0, h1, h2, h3, h4⟩ := h
  have one : ∀ {a : Addr} {v : Value}, w.cell? a = some v → w'.cell? a = some v := fun {a v} h => (hb.cell (World.block_lt_of_cell? _ _ h)).trans h
  exact ⟨one h0, one h1, one h2, one h3, one h4⟩
theorem keep5_of {w : World} {k g : Nat} {v0 v1 v2 v3 v4 : Value} {T1 T2 : TypeId} (hk : w.heap[k]? = some (.cells #[v0, v1, v2] T1 (0, 0))) (hg : w.heap[g]? = some (.cells #[v3, v4] T2 (0, 0))) :
    w.cell? ⟨k, 0, none⟩ = some v0 ∧ w.cell? ⟨k, 1, none⟩ = some v1 ∧ w.cell? ⟨k, 2, none⟩ = some v2 ∧ w.cell? ⟨g, 0, none⟩ = some v3 ∧ w.cell? ⟨g, 1, none⟩ = some v4 :=
  ⟨cell_of_block hk 0, cell_of_block hk 1, cell_of_block hk 2, cell_of_block hg 0, cell_of_block hg 1⟩

/-- What a frame answers. -/
def FramePost (w : World) (vs ns : List UInt8) (e : Ending) (w' : World) : Prop :=
  ∃ a1 c1 a2 c2, e = .returned (.tuple #[.slice a1 vs.length c1, .slice a2 ns.length c2]) ∧ Row isByte w' w.heap.size 5 (.slice a1 vs.length c1) vs.length (vs.map bv) ∧ Row isByte w' w.heap.size 5 (.slice a2 ns.length c2) ns.length (ns.map bv) ∧ Below w.heap.size w w'

end Go.Proofs.Ytdheldhecimfnaa
/- The reference's bit, at, May, with, Not1, And1 for words, by their contracts. -/
namespace Go.Proofs.Ytdheldhecimfnaa
open Go Go.RowKit Go.Joins

theorem rshr (x k : Nat) : ((x : Int) / 2 ^ k).tmod 2 = ((x.testBit k).toNat : Int) := by
  have e : (x : Int) / 2 ^ k = ((x / 2 ^ k : Nat) : Int) := by
    rw [Int.natCast_ediv]
    norm_cast
  rw [e, Nat.testBit_eq_decide_div_mod_eq]
  obtain ⟨y, hy⟩ : ∃ y, y = x / 2 ^ k := ⟨_, rfl⟩
  rw [← hy]
  by_cases h1 : y % 2 = 1
  · rw [h1]
    rw [Int.tmod_eq_emod_of_nonneg (by omega)]
    show (y : Int) % 2 = 1
    omega
  · have h0 : y % 2 = 0 := by omega
    rw [h0]
    rw [Int.tmod_eq_emod_of_nonneg (by omega)]
    show (y : Int) % 2 = 0
    omega

set_option maxRecDepth 100000 in
theorem rnot1_any (v : Nat) (w : World) : Calls Try.prog 67 #[.int .u8 (v : Int)] w fun e w' => e = .returned (.int .u8 (not1 v : Nat)) ∧ w' = w := by
  go_enter Try.func67, Try.ntmps67
  by_cases h0 : v = 0
  · subst h0
    go_wp2
    go_ret
    exact ⟨rfl, rfl⟩
  · have e0 : ((v : Int) == 0) = false := by simp; omega
    by_cases h1 : v = 1
    · subst h1
      go_wp2
      go_ret
      exact ⟨rfl, rfl⟩
    · have e1 : ((v : Int) == 1) = false := by simp; omega
      have HE : Hid (not1 v = 2) := by show _ = _; unfold not1; rw [if_neg h0, if_neg h1]
      clear h0 h1
      go_wp2
      go_ret
      exact ⟨by rw [HE.out]; rfl, rfl⟩

set_option maxRecDepth 100000 in
theorem rand1_any (a b : Nat) (w : World) : Calls Try.prog 46 #[.int .u8 (a : Int), .int .u8 (b : Int)] w fun e w' => e = .returned (.int .u8 (and1 a b : Nat)) ∧ w' = w := by
  go_enter Try.func46, Try.ntmps46
  by_cases h0 : a = 0
  · subst h0
    go_wp2
    go_ret
    exact ⟨rfl, rfl⟩
  · have e0 : ((a : Int) == 0) = false := by simp; omega
    by_cases h1 : b = 0
    · subst h1
      have HE : Hid (and1 a 0 = 0) := by show _ = _; unfold and1; simp
      clear h0
      go_wp2
      go_ret
      exact ⟨by rw [HE.out]; rfl, rfl⟩
    · have e1 : ((b : Int) == 0) = false := by simp; omega
      by_cases h2 : a = 1
      · subst h2
        by_cases h3 : b = 1
        · subst h3
          go_wp2
          go_ret
          exact ⟨rfl, rfl⟩
        · have e3 : ((b : Int) == 1) = false := by simp; omega
          have HE : Hid (and1 1 b = 2) := by show _ = _; unfold and1; simp [h1, h3]
          clear h0 h1 h3
          go_wp2
          go_ret
          exact ⟨by rw [HE.out]; rfl, rfl⟩
      · have e2 : ((a : Int) == 1) = false := by simp; omega
        have HE : Hid (and1 a b = 2) := by show _ = _; unfold and1; simp [h0, h1, h2]
        clear h0 h1 h2
        go_wp2
        go_ret
        exact ⟨by rw [HE.out]; rfl, rfl⟩

/-- The place has a bit. -/
def hasW (a : W2) (j : Nat) : Bool := a.1.testBit j || a.2.testBit j
theorem mayW_of {a : W2} (ha : a.in) (h : ∀ j, j < 64 → hasW a j = true) : mayW a = true := by
  rw [mayW_iff ha]
  intro j hj
  have := h j hj
  unfold hasW at this
  simpa using this
theorem mayW_not {a : W2} (ha : a.in) {j : Nat} (hj : j < 64) (h : hasW a j = false) : mayW a = false := by
  cases hm : mayW a with
  | false => rfl
  | true =>
    have := (mayW_iff ha).1 hm j hj
    unfold hasW at h
    simp only [Bool.or_eq_false_iff] at h
    rw [h.1, h.2] at this
    simp at this

end Go.Proofs.Ytdheldhecimfnaa
/- sim: isValue, areValues, Value; the reference's fine and Value, by their contracts. -/
namespace Go.Proofs.Ytdheldhecimfnaa
open Go Go.RowKit Go.Joins

set_option maxRecDepth 100000 in
theorem fine_any (many : Int) (l : List UInt8) (a : Option Addr) (n c : Nat) (hn : n ≤ 1048576) (w : World) (h : Sees w a n c (l.map bv)) :
    Calls Try.prog 74 #[.slice a n c, .int .i64 many] w fun e w' => e = .returned (.bool (valsOk l many)) ∧ w = w' := by
  have hl := h.lenMap
  obtain ⟨q, hq⟩ : ∃ q, q = valsOk l many := ⟨_, rfl⟩
  have NO : Hid (∀ k, k < n → 2 < (l.getD k 0).toNat → q = false) := fun k hk hb => by
    rw [hq]; unfold valsOk
    rw [show l.any (fun u => decide (2 < u.toNat)) = true from List.any_eq_true.2 ⟨_, getD_mem (by rw [hl]; exact hk), decide_eq_true hb⟩]; simp
  have YES : Hid ((∀ k, k < n → ¬ 2 < (l.getD k 0).toNat) → q = decide ((n : Int) = many)) := fun hh => by
    rw [hq]; unfold valsOk
    rw [hl, show l.any (fun u => decide (2 < u.toNat)) = false from any_none (all_of_getD (d := 0) (fun j hj => decide_eq_false (hh j (by rw [← hl]; exact hj))))]; simp
  have HS := Lib.hid h
  have HL := Lib.hid hl
  rw [← hq]
  clear hq h hl
  go_enter Try.func74, Try.ntmps74
  go_wp2
  go_loop [5] (fun i => ∃ k : Nat, k ≤ n ∧ i = .int .i64 k ∧ Hid (∀ j, j < k → ¬ 2 < (l.getD j 0).toNat)) (fun i => n - (intOf i).toNat)
  case atStart => exact ⟨0, Nat.zero_le _, rfl, fun j hj => absurd hj (by omega)⟩
  case round =>
    obtain ⟨k, hk, rfl, hno⟩ := hrel
    by_cases hlt : k < n
    · obtain ⟨b, off, rfl, hbw⟩ := HS.out.addr (by omega)
      have hcx := HS.out.byte k hlt
      have W1 : IntKind.i64.wrap ((k : Int) + 1) = (k : Int) + 1 := IntWalk.i64_in _ (by omega)
      obtain ⟨u, hu⟩ : ∃ u, u = (l.getD k 0).toNat := ⟨_, rfl⟩
      have hcx2 : w.cell? ⟨b, off + k, none⟩ = some (.int .u8 (u : Int)) := by rw [hu]; exact hcx
      have HU := Lib.hid hu
      clear hcx hu
      by_cases hq : 2 < u
      · have e1 : decide ((2 : Int) < (u : Int)) = true := by simp; omega
        have HQ : Hid (q = false) := NO.out k hlt (by rw [← HU.out]; exact hq)
        go_wp2
        go_ret
        exact ⟨by rw [HQ.out]; rfl, rfl⟩
      · have e1 : decide ((2 : Int) < (u : Int)) = false := by simp; omega
        have HQ := Lib.hid hq
        clear hq
        go_wp2
        go_round
        case rel =>
          refine ⟨k + 1, by omega, by go_num, fun j hj => ?_⟩
          rcases Nat.lt_or_ge j k with h | h
          · exact hno.out j h
          · have : j = k := by omega
            subst this
            rw [← HU.out]; exact HQ.out
        case measure => simp [intOf]; omega
    · have hkn : k = n := by omega
      subst hkn
      have Y := Lib.hid (YES.out hno.out)
      by_cases hq : (k : Int) = many
      · have e1 : ((k : Int) == many) = true := by simpa using hq
        have HQ := Lib.hid hq
        clear hq
        go_wp2
        go_ret
        exact ⟨by rw [Y.out]; have := HQ.out; simp [this], rfl⟩
      · have e1 : ((k : Int) == many) = false := by simpa using hq
        have e2 : ((k : Int) = many) = False := by simpa using hq
        have HQ := Lib.hid hq
        clear hq
        go_wp2
        go_ret
        exact ⟨by rw [Y.out]; have := HQ.out; simp [this], rfl⟩

/-- What is told of a literal. -/
def valueL (vars : List UInt8) (lit : Nat) : UInt8 := if lit / 2 < vars.length ∧ (vars.getD (lit / 2) 0).toNat ≤ 2 then k1.val vars lit else 2

set_option maxRecDepth 100000 in
theorem refvalue_any (vars : List UInt8) (a : Option Addr) (n c lit : Nat) (w : World) (h : Sees w a n c (vars.map bv)) (h2 : lit < 4294967296) :
    Calls Try.prog 45 #[.slice a n c, .int .u32 lit] w fun e w' => e = .returned (bv (valueL vars lit)) ∧ w' = w := by
  have hl := h.lenMap
  have D1 : Int.tdiv (lit : Int) 2 = ((lit / 2 : Nat) : Int) := by rw [Int.tdiv_eq_ediv_of_nonneg (by omega)]; omega
  have D2 : Int.tmod (lit : Int) 2 = ((lit % 2 : Nat) : Int) := by rw [Int.tmod_eq_emod_of_nonneg (by omega)]; omega
  have hE : ∀ d m, d = lit / 2 → m = lit % 2 → valueL vars lit = if d < n ∧ (vars.getD d 0).toNat ≤ 2 then (if m = 1 then k1.nt (vars.getD d 0) else vars.getD d 0) else 2 := fun d m hd hm => by unfold valueL; rw [hl, hd, hm]; rfl
  obtain ⟨d, hd⟩ : ∃ d, d = lit / 2 := ⟨_, rfl⟩
  obtain ⟨m, hm⟩ : ∃ m, m = lit % 2 := ⟨_, rfl⟩
  have HE := Lib.hid (hE d m hd hm)
  rw [← hd] at D1
  rw [← hm] at D2
  have hd32 : d < 4294967296 := by omega
  have hm2 : m < 2 := by omega
  have U1 : IntKind.u32.wrap (d : Int) = (d : Int) := IntWalk.u32_in _ (by omega)
  have U2 : IntKind.i64.wrap (d : Int) = (d : Int) := IntWalk.i64_in _ (by omega)
  have U3 : IntKind.u32.wrap (m : Int) = (m : Int) := IntWalk.u32_in _ (by omega)
  clear hE hl hd hm
  have HS := Lib.hid h
  obtain ⟨V, hV⟩ : ∃ V, V = valueL vars lit := ⟨_, rfl⟩
  rw [← hV] at HE ⊢
  clear hV h h2 hd32
  go_enter Try.func45, Try.ntmps45
  by_cases h1 : d < n
  · obtain ⟨b, off, rfl, hbw⟩ := HS.out.addr (by omega)
    have hcx := HS.out.byte d h1
    obtain ⟨u, hu⟩ : ∃ u, u = vars.getD d 0 := ⟨_, rfl⟩
    rw [← hu] at hcx HE
    obtain ⟨x, hx⟩ : ∃ x, x = u.toNat := ⟨_, rfl⟩
    rw [← hx] at hcx HE
    have hI : (d : Int) < (n : Int) := by omega
    have hI2 : ¬ (n : Int) ≤ (d : Int) := by omega
    have HN := Lib.hid (rnot1_any x)
    by_cases h3 : x ≤ 2
    · have e3 : decide ((2 : Int) < (x : Int)) = false := by simp; omega
      have HF : Hid (V = if m = 1 then k1.nt u else u) := by show _ = _; rw [HE.out, if_pos ⟨h1, h3⟩]
      have HU := Lib.hid hx
      clear h3 HE hu hx
      by_cases h4 : m = 1
      · subst h4
        go_wp2_with fail
        refine (HN.out _).mono ?_
        rintro e w1 ⟨rfl, rfl⟩
        go_wp2
        go_ret
        exact ⟨by rw [HF.out]; simp only [if_true]; rw [bv_not, ← HU.out]; rfl, rfl⟩
      · have e1 : ((m : Int) == 1) = false := by simp; omega
        have H4 := Lib.hid h4
        clear h4 hm2
        go_wp2
        go_ret
        exact ⟨by rw [HF.out, if_neg H4.out]; show _ = Ending.returned (.int .u8 ((u.toNat : Nat) : Int)); rw [← HU.out]; rfl, rfl⟩
    · have e3 : decide ((2 : Int) < (x : Int)) = true := by simp; omega
      have HF : Hid (V = 2) := by show _ = _; rw [HE.out, if_neg (fun h => h3 h.2)]
      clear h3 HE hu hx
      go_wp2
      go_ret
      exact ⟨by rw [HF.out]; rfl, rfl⟩
  · have hI2 : (n : Int) ≤ (d : Int) := by omega
    have HF : Hid (V = 2) := by show _ = _; rw [HE.out, if_neg (fun h => h1 h.1)]
    clear h1 HE
    go_wp2
    go_ret
    exact ⟨by rw [HF.out]; rfl, rfl⟩
end Go.Proofs.Ytdheldhecimfnaa
/- The reference's Frame, by its contract. -/
namespace Go.Proofs.Ytdheldhecimfnaa
open Go Go.RowKit Go.Joins

/-- May a frame be? -/
def frameOk (c : NormC) (st ins : List UInt8) : Bool := mayC c && valsOk st c.lats.length && valsOk ins c.ins
/-- What a frame answers, or its error. -/
def SrFrPost (w : World) (ok : Bool) (vs ns : List UInt8) (e : Ending) (w' : World) : Prop :=
  ∃ x y : Slc, e = .returned (.tuple #[slV x, slV y, .int .i64 (if ok = true then 0 else 2)]) ∧ Row isByte w' w.heap.size 5 (slV x) (if ok = true then vs else []).length ((if ok = true then vs else []).map bv) ∧
    Row isByte w' w.heap.size 5 (slV y) (if ok = true then ns else []).length ((if ok = true then ns else []).map bv) ∧ Below w.heap.size w w'
theorem SrFrPost.no {w w' : World} {ok : Bool} {vs ns : List UInt8} (h : ok = false) (hb : Below w.heap.size w w') : SrFrPost w ok vs ns (.returned (.tuple #[.slice none 0 0, .slice none 0 0, .int .i64 2])) w' := by
  subst h
  exact ⟨slc0, slc0, rfl, Row.nil _ _ _ _, Row.nil _ _ _ _, hb⟩
theorem valsOk_iff {l : List UInt8} {m : Int} : valsOk l m = true ↔ (l.length : Int) = m ∧ ∀ u ∈ l, u.toNat ≤ 2 := by
  unfold valsOk
  simp only [Bool.and_eq_true, decide_eq_true_eq, Bool.not_eq_true', List.any_eq_false]
  exact ⟨fun h => ⟨h.1, fun u hu => by have := h.2 u hu; simpa using this⟩, fun h => ⟨h.1, fun u hu => by have := h.2 u hu; simpa using this⟩⟩
theorem k1_nt_le (a : UInt8) : (k1.nt a).toNat ≤ 2 := by
  show (UInt8.ofNat (not1 a.toNat)).toNat ≤ 2
  have := not1_le a.toNat
  rw [UInt8.toNat_ofNat', Nat.mod_eq_of_lt (by omega)]
  exact this
theorem k1_an_le (a b : UInt8) : (k1.an a b).toNat ≤ 2 := by
  show (UInt8.ofNat (and1 a.toNat b.toNat)).toNat ≤ 2
  have := and1_le a.toNat b.toNat
  rw [UInt8.toNat_ofNat', Nat.mod_eq_of_lt (by omega)]
  exact this
theorem gates_le2 : ∀ (l : List (Nat × Nat)) (vs : List UInt8), (∀ u ∈ vs, u.toNat ≤ 2) → ∀ u ∈ k1.gates l vs, u.toNat ≤ 2
  | [], _, h => h
  | g :: r, vs, h => by
    rw [Kd.gates]
    refine gates_le2 r _ (fun u hu => ?_)
    rcases List.mem_append.1 hu with hu | hu
    · exact h u hu
    · obtain rfl : u = _ := by simpa using hu
      exact k1_an_le _ _
theorem valueL_eq {vs : List UInt8} {lit : Nat} (h : lit / 2 < vs.length) (h2 : ∀ u ∈ vs, u.toNat ≤ 2) : valueL vs lit = k1.val vs lit := by
  unfold valueL
  rw [if_pos ⟨h, h2 _ (getD_mem h)⟩]

theorem keep3f {w w' : World} {a0 a1 a2 : Addr} {v0 v1 v2 : Value} (h : w.cell? a0 = some v0 ∧ w.cell? a1 = some v1 ∧ w.cell? a2 = some v2) (hb : Below w.heap.size w w') : w'.cell? a0 = some v0 ∧ w'.cell? a1 = some v1 ∧ w'.cell? a2 = some v2 := by
  obtain ⟨h0, h1, h2⟩ := h
  have one : ∀ {a : Addr} {v : Value}, w.cell? a = some v → w'.cell? a = some v := fun {a v} h => (hb.cell (World.block_lt_of_cell? _ _ h)).trans h
  exact ⟨one h0, one h1, one h2⟩

theorem row_base {ok : Value → Prop} {w : World} {base base' : Nat} {e : TypeId} {v : Value} {n : Nat} {xs : List Value} (h : Row ok w base e v n xs) (hb : base' ≤ base) : Row ok w base' e v n xs := by
  refine ⟨h.1, ?_⟩
  rcases h.2 with h2 | ⟨g, cap, cur, hv, hg, r⟩
  · exact .inl h2
  · exact .inr ⟨g, cap, cur, hv, Nat.le_trans hb hg, r⟩

set_option maxRecDepth 100000 in
set_option maxHeartbeats 3200000 in
theorem rframe_any (c : NormC) (s : CSlots) (st ins : List UInt8) (a1 : Option Addr) (n1 c1 : Nat) (a2 : Option Addr) (n2 c2 : Nat) (w : World) (hc : SeesCir w s c) (hs : s.small)
    (h1 : Sees w a1 n1 c1 (st.map bv)) (h2 : Sees w a2 n2 c2 (ins.map bv)) (hn1 : n1 ≤ 1048576) (hn2 : n2 ≤ 1048576) (hlo : -9223372036854775808 ≤ c.ins) (hhi : c.ins < 9223372036854775808) (hw : Wide c) :
    Calls Try.prog 66 #[cirV c.ins s, .slice a1 n1 c1, .slice a2 n2 c2] w (SrFrPost w (frameOk c st ins) (k1.vars c st ins) (k1.next c (k1.vars c st ins))) := by
  obtain ⟨i0, hi, hz0, hz1, hz2⟩ := info_parts info_byte
  have HMAY := Lib.hid (fun W (hb : Below w.heap.size w W) => refmay3_any c s W (hc.below hb) hs hlo hhi hw)
  have HF1 := Lib.hid (fun W (hb : Below w.heap.size w W) => fine_any (c.lats.length : Int) st a1 n1 c1 hn1 W (h1.below hb))
  have HF2 := Lib.hid (fun W (hb : Below w.heap.size w W) => fine_any c.ins ins a2 n2 c2 hn2 W (h2.below hb))
  obtain ⟨b1, m1, d1, b2, m2, d2, b3, m3, d3, b4, m4, d4, b5, m5, d5⟩ := s
  have hla : c.lats.length = m1 := hc.s1.1
  have hg : c.gates.length = m2 := hc.s2.1
  rw [hla] at HF1
  have HLA := Lib.hid hla
  have HG := Lib.hid hg
  have HC := Lib.hid hc
  have H1 := Lib.hid h1
  have H2 := Lib.hid h2
  obtain ⟨ok, hok⟩ : ∃ ok, ok = frameOk c st ins := ⟨_, rfl⟩
  obtain ⟨qm, hqm⟩ : ∃ q, q = mayC c := ⟨_, rfl⟩
  obtain ⟨q1, hq1⟩ : ∃ q, q = valsOk st (m1 : Int) := ⟨_, rfl⟩
  obtain ⟨q2, hq2⟩ : ∃ q, q = valsOk ins c.ins := ⟨_, rfl⟩
  have HOK : Hid (ok = (qm && q1 && q2)) := by show _ = _; rw [hok, hqm, hq1, hq2, ← hla]; rfl
  rw [← hok]
  rw [← hqm] at HMAY
  rw [← hq1] at HF1
  rw [← hq2] at HF2
  have HQM := Lib.hid hqm
  have HQ1 := Lib.hid hq1
  have HQ2 := Lib.hid hq2
  have HN1 : Hid (st.length = n1) := h1.lenMap
  have HN2 : Hid (ins.length = n2) := h2.lenMap
  clear hla hg hc h1 h2 hok hqm hq1 hq2 hlo hhi hw hs
  unfold cirV at *
  go_enter Try.func66, Try.ntmps66
  go_upto_region 1 with fail
  generalize hW : World.alloc w _ = W1
  have hb : Below w.heap.size w W1 := by subst hW; exact ext_alloc _ _
  have hx : W1.heap[w.heap.size]? = some (.cells #[.int .i64 c.ins, .slice b1 m1 d1, .slice b2 m2 d2, .slice b3 m3 d3, .slice b4 m4 d4, .slice b5 m5 d5] 26 (0, 0)) := by subst hW; exact heap_new _ _ _ rfl
  have HB := Lib.hid hb
  have HX := Lib.hid hx
  clear hW hb hx
  have p0 := cell_of_block HX.out 0
  have p1 := cell_of_block HX.out 1
  have p2 := cell_of_block HX.out 2
  have p3 := cell_of_block HX.out 3
  have p4 := cell_of_block HX.out 4
  have p5 := cell_of_block HX.out 5
  go_wp2_with fail
  refine (HMAY.out W1 HB.out).mono ?_
  rintro e W2 ⟨rfl, hb⟩
  have HX2 := Lib.hid (heap_below HX.out hb)
  have HB2 := Lib.hid (ext_trans HB.out hb)
  clear p0 p1 p2 p3 p4 p5 HX HB hb
  have p0 := cell_of_block HX2.out 0
  have p1 := cell_of_block HX2.out 1
  have p2 := cell_of_block HX2.out 2
  have p3 := cell_of_block HX2.out 3
  have p4 := cell_of_block HX2.out 4
  have p5 := cell_of_block HX2.out 5
  cases qm with
  | false =>
    have HO : Hid (ok = false) := by show _ = _; rw [HOK.out]; simp
    clear p0 p1 p2 p3 p4 p5
    go_wp2
    refine bodyPost_ret (v := .tuple #[.slice none 0 0, .slice none 0 0, .int .i64 2]) ?_ rfl ?_
    · simp [results, Try.results66, go_sem]
    · exact SrFrPost.no HO.out HB2.out
  | true =>
  go_wp2_with fail
  refine (HF1.out W2 HB2.out).mono ?_
  rintro e W3 ⟨rfl, rfl⟩
  cases q1 with
  | false =>
    have HO : Hid (ok = false) := by show _ = _; rw [HOK.out]; simp
    clear p0 p1 p2 p3 p4 p5
    go_wp2
    refine bodyPost_ret (v := .tuple #[.slice none 0 0, .slice none 0 0, .int .i64 2]) ?_ rfl ?_
    · simp [results, Try.results66, go_sem]
    · exact SrFrPost.no HO.out HB2.out
  | true =>
  go_wp2_with fail
  refine (HF2.out W2 HB2.out).mono ?_
  rintro e W4 ⟨rfl, rfl⟩
  cases q2 with
  | false =>
    have HO : Hid (ok = false) := by show _ = _; rw [HOK.out]; simp
    clear p0 p1 p2 p3 p4 p5
    go_wp2
    refine bodyPost_ret (v := .tuple #[.slice none 0 0, .slice none 0 0, .int .i64 2]) ?_ rfl ?_
    · simp [results, Try.results66, go_sem]
    · exact SrFrPost.no HO.out HB2.out
  | true =>
  have hmay := mayC_iff.1 HQM.out.symm
  obtain ⟨hl1, hv1⟩ := valsOk_iff.1 HQ1.out.symm
  obtain ⟨hl2, hv2⟩ := valsOk_iff.1 HQ2.out.symm
  have hl1' : st.length = m1 := by omega
  have hfew := hmay.few
  unfold varsN at hfew
  rw [← hl2, HLA.out, HG.out] at hfew
  simp only [Int.toNat_natCast] at hfew
  obtain rfl : m1 = n1 := by rw [← HN1.out]; exact hl1'.symm
  rw [HN2.out] at hfew
  have HF := Lib.hid hfew
  have HLT := Lib.hid (vars_lt c hmay st ins (by rw [HLA.out]; exact hl1') hl2)
  have HV1 := Lib.hid hv1
  have HV2 := Lib.hid hv2
  have HMC := Lib.hid hmay
  have HO : Hid (ok = true) := HOK.out
  have HINS : Hid ((n2 : Int) = c.ins) := by show _ = _; rw [← hl2, HN2.out]
  clear hl1 hl2 hv1 hv2 hl1' hfew hmay HF1 HF2 HMAY
  go_upto_region 4 with fail
  generalize hW : World.alloc W2 _ = W5
  have hb : Below W2.heap.size W2 W5 := by subst hW; exact ext_alloc _ _
  have hr0 : Row isByte W5 w.heap.size 5 (.slice (some ⟨W2.heap.size, 0, none⟩) 1 1) 1 [bv 0] := by
    subst hW
    exact ⟨rfl, .inr ⟨W2.heap.size, 1, #[.int .u8 0], rfl, HB2.out.size, heap_new _ _ _ rfl, Nat.le_refl _, by decide, rfl, rfl, fun u hu => isByte_all [0] u hu⟩⟩
  obtain ⟨F0, hF0⟩ : ∃ F, F = W2.heap.size := ⟨_, rfl⟩
  rw [← hF0] at hr0 ⊢
  have HX5 := Lib.hid (heap_below HX2.out hb)
  have HB5 := Lib.hid (ext_trans HB2.out hb)
  have R0 := Lib.hid hr0
  clear p0 p1 p2 p3 p4 p5 hW hb hr0 hF0 HX2 HB2
  go_wp2_with (at_builtin; refine wpList_append_row isByte _ rfl _ _ 27 rfl w.heap.size 5 i0 (.int .u8 0) 1 Try.underlying27 hi hz0 hz1 hz2 rfl isByte_zero _ _ _ rfl R0.out a2 n2 c2 (ins.map bv) rfl ?qb1 (bv_one _) (isByte_all _) ?qb4 ?qb5 ?qb6 ?_)
  case qb1 => exact H2.out.below HB5.out
  case qb4 => unfold maxLen; have := HF.out; omega
  case qb5 => have := HF.out; omega
  case qb6 => exact HB5.out.size
  intro v2 w2 r2 g2 _
  have HX6 := Lib.hid (heap_grown HX5.out g2 (R0.out.not_own HX5.out (by decide)))
  have HB6 := Lib.hid (HB5.out.grown g2 HB5.out.size (fun k hk => (R0.out.own.lt k hk).1))
  obtain ⟨e2, f2, rfl⟩ := r2.form
  have R2 := Lib.hid r2
  clear HX5 HB5 R0 g2 r2
  go_wp2_with (at_builtin; refine wpList_append_row isByte _ rfl _ _ 27 rfl w.heap.size 5 i0 (.int .u8 0) 1 Try.underlying27 hi hz0 hz1 hz2 rfl isByte_zero _ _ _ rfl R2.out a1 m1 c1 (st.map bv) rfl ?qc1 (bv_one _) (isByte_all _) ?qc4 ?qc5 ?qc6 ?_)
  case qc1 => exact H1.out.below HB6.out
  case qc4 => unfold maxLen; have := HF.out; omega
  case qc5 => have := HF.out; omega
  case qc6 => exact HB6.out.size
  intro v3 w3 r3 g3 _
  have HX7 := Lib.hid (heap_grown HX6.out g3 (R2.out.not_own HX6.out (by decide)))
  have HB7 := Lib.hid (HB6.out.grown g3 HB6.out.size (fun k hk => (R2.out.own.lt k hk).1))
  obtain ⟨V0, hV0⟩ : ∃ V0, V0 = (0 : UInt8) :: (ins ++ st) := ⟨_, rfl⟩
  obtain ⟨N0, hN0⟩ : ∃ N0, N0 = 1 + n2 + m1 := ⟨_, rfl⟩
  have HN0 : Hid (V0.length = N0) := by show _ = _; rw [hV0, hN0, List.length_cons, List.length_append, HN1.out, HN2.out]; omega
  have HV2L : Hid (∀ u ∈ V0, u.toNat ≤ 2) := by
    show ∀ u ∈ V0, _
    intro u hu
    rw [hV0] at hu
    rcases List.mem_cons.1 hu with rfl | hu
    · decide
    · rcases List.mem_append.1 hu with hu | hu
      · exact HV2.out u hu
      · exact HV1.out u hu
  have hr4 : Row isByte w3 w.heap.size 5 v3 N0 (V0.map bv) := by rw [hV0, hN0]; simpa using r3
  obtain ⟨e3, f3, rfl⟩ := hr4.form
  have R3 := Lib.hid hr4
  have HV0 := Lib.hid hV0
  have HNE := Lib.hid hN0
  clear HX6 HB6 R2 g3 r3 hr4 hV0 hN0
  have q2 := cell_of_block HX7.out 2
  go_wp2_with fail
  clear q2
  go_loopw [10, 9] (fun i v wr => ∃ (k : Nat) (a : Option Addr) (cp : Nat), k ≤ m2 ∧ i = .int .i64 k ∧ v = .slice a (N0 + k) cp ∧ Hid (Row isByte wr w.heap.size 5 (.slice a (N0 + k) cp) (N0 + k) ((k1.gates (c.gates.take k) V0).map bv)) ∧
      Hid (wr.heap[w.heap.size]? = some (.cells #[.int .i64 c.ins, .slice b1 m1 d1, .slice b2 m2 d2, .slice b3 m3 d3, .slice b4 m4 d4, .slice b5 m5 d5] 26 (0, 0))) ∧ Hid (Below w.heap.size w wr)) (fun i _ _ => m2 - (intOf i).toNat)
  case atStart => exact ⟨0, e3, f3, Nat.zero_le _, rfl, rfl, R3.out, HX7.out, HB7.out⟩
  case round =>
    clear HX7 HB7 R3
    obtain ⟨k, va, vc, hk, rfl, rfl, hR, hX, hB⟩ := hrel
    by_cases hlt : k < m2
    · obtain ⟨bb, off, rfl, hbb⟩ := HC.out.s2.addr (show 0 < m2 by omega)
      have HBB := Lib.hid hbb
      obtain ⟨qx, qy⟩ := (HC.out.below hB.out).s2.cells k hlt (0, 0)
      have hl4 := HLT.out k (by rw [HG.out]; exact hlt)
      have hsn : c.gates.take (k + 1) = c.gates.take k ++ [c.gates.getD k (0, 0)] := by
        rw [List.take_add_one, List.getElem?_eq_getElem (by rw [HG.out]; exact hlt)]; simp [List.getD, List.getElem?_eq_getElem (show k < c.gates.length by rw [HG.out]; exact hlt)]
      obtain ⟨p, hp⟩ : ∃ t, t = c.gates.getD k (0, 0) := ⟨_, rfl⟩
      rw [← hp] at qx qy hl4 hsn
      obtain ⟨x, y⟩ := p
      simp only [nv32] at qx qy
      simp only at hl4
      have hVl : (k1.gates (c.gates.take k) V0).length = N0 + k := by rw [Kd.gates_len, HN0.out, List.length_take, HG.out, Nat.min_eq_left (by omega)]
      have hV2 : ∀ u ∈ k1.gates (c.gates.take k) V0, u.toNat ≤ 2 := gates_le2 _ _ HV2L.out
      have HGS : Hid (k1.gates (c.gates.take (k + 1)) V0 = k1.gates (c.gates.take k) V0 ++ [k1.an (k1.val (k1.gates (c.gates.take k) V0) x) (k1.val (k1.gates (c.gates.take k) V0) y)]) := by show _ = _; rw [hsn, Kd.gates_snoc]
      obtain ⟨V, hV⟩ : ∃ V, V = k1.gates (c.gates.take k) V0 := ⟨_, rfl⟩
      rw [← hV] at HGS hVl hR hV2
      clear hV hsn hp
      have hsum : 1 + (ins.length + st.length) + k = N0 + k := by rw [HNE.out, HN1.out, HN2.out]; omega
      rw [hsum] at hl4
      have W1' : IntKind.i64.wrap ((k : Int) + 1) = (k : Int) + 1 := IntWalk.i64_in _ (by have := HF.out; omega)
      obtain ⟨av, cv, hrv, _, hsv⟩ := hR.out.sees
      cases hrv
      obtain ⟨na, hna⟩ : ∃ na, na = k1.val V x := ⟨_, rfl⟩
      obtain ⟨nb, hnb⟩ : ∃ nb, nb = k1.val V y := ⟨_, rfl⟩
      have EA : ∀ W, Below wr.heap.size wr W → Calls Try.prog 45 #[.slice va (N0 + k) vc, .int .u32 (x : Int)] W fun e w' => e = .returned (.int .u8 (na.toNat : Int)) ∧ w' = W := fun W hb => by
        rw [hna, ← valueL_eq (by rw [hVl]; exact hl4.1) hV2]; exact refvalue_any V va (N0 + k) vc x W (hsv.below hb) hl4.2.2.1
      have EB : ∀ W, Below wr.heap.size wr W → Calls Try.prog 45 #[.slice va (N0 + k) vc, .int .u32 (y : Int)] W fun e w' => e = .returned (.int .u8 (nb.toNat : Int)) ∧ w' = W := fun W hb => by
        rw [hnb, ← valueL_eq (by rw [hVl]; exact hl4.2.1) hV2]; exact refvalue_any V va (N0 + k) vc y W (hsv.below hb) hl4.2.2.2
      have HEA := Lib.hid EA
      have HEB := Lib.hid EB
      have HEC := Lib.hid (rand1_any na.toNat nb.toNat)
      rw [← hna, ← hnb] at HGS
      obtain ⟨nc, hnc⟩ : ∃ nc, nc = k1.an na nb := ⟨_, rfl⟩
      rw [← hnc] at HGS
      have HNC : Hid (Value.int .u8 ((and1 na.toNat nb.toNat : Nat) : Int) = bv nc) := by show _ = _; rw [hnc, bv_and]
      obtain ⟨nd, hnd⟩ : ∃ nd, nd = and1 na.toNat nb.toNat := ⟨_, rfl⟩
      rw [← hnd] at HEC HNC
      clear hna hnb hnc hnd EA EB hsv hV2 hVl hl4 hsum
      have hq4 : N0 + k + 1 ≤ maxLen := by unfold maxLen; have := HF.out; have := HNE.out; omega
      have hq5 : (N0 + k + 1) * 1 ≤ 140737488355328 := by have := HF.out; have := HNE.out; omega
      have H1C : Hid (∀ u ∈ [Value.int .u8 ((nd : Nat) : Int)], u.oneCell' = true) := by rw [HNC.out]; exact bv_one [nc]
      have HOC : Hid (∀ u ∈ [Value.int .u8 ((nd : Nat) : Int)], isByte u) := by rw [HNC.out]; exact isByte_all [nc]
      have HQ4 := Lib.hid hq4
      have HQ5 := Lib.hid hq5
      have hI : (k : Int) < (m2 : Int) := by omega
      have p2 := cell_of_block hX.out 2
      have HP := Lib.hid (And.intro p2 (And.intro qx qy))
      clear hq4 hq5
      clear qx qy
      go_upto_region 8 with fail
      clear p2
      refine wp_region_noPanic ?_
      refine wp_region_held (S := fun w' => w'.cell? ⟨w.heap.size, 2, none⟩ = some (.slice (some ⟨bb, off, none⟩) m2 d2) ∧ w'.cell? ⟨bb, off + k * 2, none⟩ = some (.int .u32 (x : Int)) ∧ w'.cell? ⟨bb, off + k * 2 + 1, none⟩ = some (.int .u32 (y : Int))) (by kernel_rfl) ?_
      generalize hY : ({ wr with drawn := wr.drawn + 1 } : World) = Y0
      have hY0 : Below wr.heap.size wr Y0 := by subst hY; exact (Below.refl _ _).drew
      have HSD := Lib.hid (keep3f HP.out hY0)
      have HYB := Lib.hid hY0
      clear hY0 hY
      refine wpAnyH_take (i := 0) (v := ?_) (by simp only [List.getElem?_toArray, List.getElem?_cons_zero]; rfl) (by kernel_rfl) (by kernel_rfl) (by kernel_rfl) (fun _ _ _ h => h) (Or.inl ⟨by rfl, ?_⟩) HSD.out ?_
      rotate_left
      · intro w hSw
        (try dsimp only at hSw)
        obtain ⟨q0_, q1_, q2_⟩ := hSw
        go_simp
        try with_reducible rfl
      try simp only [Act.put, List.setIfInBounds_toArray, List.set_cons_zero, List.set_cons_succ]
      refine wpAnyH_take (i := 1) (v := ?_) (by simp only [List.getElem?_toArray, List.getElem?_cons_zero, List.getElem?_cons_succ]; rfl) (by kernel_rfl) (by kernel_rfl) (by kernel_rfl) (fun _ _ _ h => h) (Or.inl ⟨by rfl, ?_⟩) HSD.out ?_
      rotate_left
      · intro w hSw
        (try dsimp only at hSw)
        obtain ⟨q0_, q1_, q2_⟩ := hSw
        go_simp
        try with_reducible rfl
      try simp only [Act.put, List.setIfInBounds_toArray, List.set_cons_zero, List.set_cons_succ]
      refine wpAnyH_take (i := 2) (v := ?_) (by simp only [List.getElem?_toArray, List.getElem?_cons_zero, List.getElem?_cons_succ]; rfl) (by kernel_rfl) (by kernel_rfl) (by kernel_rfl) (fun _ _ _ h => h) (Or.inl ⟨by rfl, ?_⟩) HSD.out ?_
      rotate_left
      · intro w hSw
        (try dsimp only at hSw)
        obtain ⟨q0_, q1_, q2_⟩ := hSw
        go_simp
        try with_reducible rfl
      try simp only [Act.put, List.setIfInBounds_toArray, List.set_cons_zero, List.set_cons_succ]
      refine wpAnyH_take (i := 3) (v := ?_) (by simp only [List.getElem?_toArray, List.getElem?_cons_zero, List.getElem?_cons_succ]; rfl) (by kernel_rfl) (by kernel_rfl) (by kernel_rfl) (fun _ _ _ h => h) (Or.inl ⟨by rfl, ?_⟩) HSD.out ?_
      rotate_left
      · intro w hSw
        (try dsimp only at hSw)
        obtain ⟨q0_, q1_, q2_⟩ := hSw
        go_simp
        try with_reducible rfl
      try simp only [Act.put, List.setIfInBounds_toArray, List.set_cons_zero, List.set_cons_succ]
      refine wpAnyH_take (i := 4) (v := ?_) (by simp only [List.getElem?_toArray, List.getElem?_cons_zero, List.getElem?_cons_succ]; rfl) (by kernel_rfl) (by kernel_rfl) (by kernel_rfl) (fun _ _ _ h => h) (Or.inl ⟨by rfl, ?_⟩) HSD.out ?_
      rotate_left
      · intro w hSw
        (try dsimp only at hSw)
        obtain ⟨q0_, q1_, q2_⟩ := hSw
        go_simp
        try with_reducible rfl
      try simp only [Act.put, List.setIfInBounds_toArray, List.set_cons_zero, List.set_cons_succ]
      refine wpAnyH_take (i := 5) (v := ?_) (by simp only [List.getElem?_toArray, List.getElem?_cons_zero, List.getElem?_cons_succ]; rfl) (by kernel_rfl) (by kernel_rfl) (by kernel_rfl) (fun _ _ _ h => h) (Or.inl ⟨by rfl, ?_⟩) HSD.out ?_
      rotate_left
      · intro w hSw
        (try dsimp only at hSw)
        obtain ⟨q0_, q1_, q2_⟩ := hSw
        go_simp
        try with_reducible rfl
      try simp only [Act.put, List.setIfInBounds_toArray, List.set_cons_zero, List.set_cons_succ]
      refine wpAnyH_take (i := 6) (v := ?_) (by simp only [List.getElem?_toArray, List.getElem?_cons_zero, List.getElem?_cons_succ]; rfl) (by kernel_rfl) (by kernel_rfl) (by kernel_rfl) (fun _ _ _ h => h) (Or.inl ⟨by rfl, ?_⟩) HSD.out ?_
      rotate_left
      · intro w hSw
        (try dsimp only at hSw)
        obtain ⟨q0_, q1_, q2_⟩ := hSw
        go_simp
        try with_reducible rfl
      try simp only [Act.put, List.setIfInBounds_toArray, List.set_cons_zero, List.set_cons_succ]
      refine wpAnyH_take (i := 7) (v := ?_) (by simp only [List.getElem?_toArray, List.getElem?_cons_zero, List.getElem?_cons_succ]; rfl) (by kernel_rfl) (by kernel_rfl) (by kernel_rfl) (fun _ _ _ h => h) (Or.inl ⟨by rfl, ?_⟩) HSD.out ?_
      rotate_left
      · intro w hSw
        (try dsimp only at hSw)
        obtain ⟨q0_, q1_, q2_⟩ := hSw
        go_simp
        try with_reducible rfl
      try simp only [Act.put, List.setIfInBounds_toArray, List.set_cons_zero, List.set_cons_succ]
      refine wpAnyH_take (i := 9) (v := ?_) (by simp only [List.getElem?_toArray, List.getElem?_cons_zero, List.getElem?_cons_succ]; rfl) (by kernel_rfl) (by kernel_rfl) (by kernel_rfl) (fun _ _ _ h => h) (Or.inl ⟨by rfl, ?_⟩) HSD.out ?_
      rotate_left
      · intro w hSw
        (try dsimp only at hSw)
        obtain ⟨q0_, q1_, q2_⟩ := hSw
        go_simp
        try with_reducible rfl
      try simp only [Act.put, List.setIfInBounds_toArray, List.set_cons_zero, List.set_cons_succ]
      refine wpAnyH_take (i := 10) (v := ?_) (by simp only [List.getElem?_toArray, List.getElem?_cons_zero, List.getElem?_cons_succ]; rfl) (by kernel_rfl) (by kernel_rfl) (by kernel_rfl) (fun _ _ _ h => h) (Or.inl ⟨by rfl, ?_⟩) HSD.out ?_
      rotate_left
      · intro w hSw
        (try dsimp only at hSw)
        obtain ⟨q0_, q1_, q2_⟩ := hSw
        go_simp
        try with_reducible rfl
      try simp only [Act.put, List.setIfInBounds_toArray, List.set_cons_zero, List.set_cons_succ]
      refine wpAnyH_take (i := 11) (v := ?_) (by simp only [List.getElem?_toArray, List.getElem?_cons_zero, List.getElem?_cons_succ]; rfl) (by kernel_rfl) (by kernel_rfl) (by kernel_rfl) (fun _ _ _ h => h) (Or.inl ⟨by rfl, ?_⟩) HSD.out ?_
      rotate_left
      · intro w hSw
        (try dsimp only at hSw)
        obtain ⟨q0_, q1_, q2_⟩ := hSw
        go_simp
        try with_reducible rfl
      try simp only [Act.put, List.setIfInBounds_toArray, List.set_cons_zero, List.set_cons_succ]
      refine wpAnyH_take (i := 12) (v := ?_) (by simp only [List.getElem?_toArray, List.getElem?_cons_zero, List.getElem?_cons_succ]; rfl) (by kernel_rfl) (by kernel_rfl) (by kernel_rfl) (fun _ _ _ h => h) (Or.inl ⟨by rfl, ?_⟩) HSD.out ?_
      rotate_left
      · intro w hSw
        (try dsimp only at hSw)
        obtain ⟨q0_, q1_, q2_⟩ := hSw
        go_simp
        try with_reducible rfl
      try simp only [Act.put, List.setIfInBounds_toArray, List.set_cons_zero, List.set_cons_succ]
      refine wpAnyH_take (i := 13) (v := ?_) (by simp only [List.getElem?_toArray, List.getElem?_cons_zero, List.getElem?_cons_succ]; rfl) (by kernel_rfl) (by kernel_rfl) (by kernel_rfl) (fun _ _ _ h => h) (Or.inl ⟨by rfl, ?_⟩) HSD.out ?_
      rotate_left
      · intro w hSw
        (try dsimp only at hSw)
        obtain ⟨q0_, q1_, q2_⟩ := hSw
        go_simp
        try with_reducible rfl
      try simp only [Act.put, List.setIfInBounds_toArray, List.set_cons_zero, List.set_cons_succ]
      refine wpAnyH_take (i := 14) (v := ?_) (by simp only [List.getElem?_toArray, List.getElem?_cons_zero, List.getElem?_cons_succ]; rfl) (by kernel_rfl) (by kernel_rfl) (by kernel_rfl) (fun _ _ _ h => h) (Or.inl ⟨by rfl, ?_⟩) HSD.out ?_
      rotate_left
      · intro w hSw
        (try dsimp only at hSw)
        obtain ⟨q0_, q1_, q2_⟩ := hSw
        go_simp
        try with_reducible rfl
      try simp only [Act.put, List.setIfInBounds_toArray, List.set_cons_zero, List.set_cons_succ]
      refine wpAnyH_take (i := 15) (v := ?_) (by simp only [List.getElem?_toArray, List.getElem?_cons_zero, List.getElem?_cons_succ]; rfl) (by kernel_rfl) (by kernel_rfl) (by kernel_rfl) (fun _ _ _ h => h) (Or.inl ⟨by rfl, ?_⟩) HSD.out ?_
      rotate_left
      · intro w hSw
        (try dsimp only at hSw)
        obtain ⟨q0_, q1_, q2_⟩ := hSw
        go_simp
        try with_reducible rfl
      try simp only [Act.put, List.setIfInBounds_toArray, List.set_cons_zero, List.set_cons_succ]
      refine wpAnyH_ready (rs := [8]) (by kernel_rfl) (by simp) ?_
      refine AllReadyH.cons (by simp only [List.getElem?_toArray, List.getElem?_cons_zero, List.getElem?_cons_succ]; rfl) (fun K hK => ?_) AllReadyH.nil
      go_simp
      refine (HEA.out _ HYB.out).mono ?_
      rintro e s1 ⟨rfl, rfl⟩
      refine hK.out _ _ HSD.out (fun _ => ?_)
      clear hK K
      try simp only [Act.put, List.setIfInBounds_toArray, List.set_cons_zero, List.set_cons_succ]
      refine wpAnyH_ready (rs := [16]) (by kernel_rfl) (by simp) ?_
      refine AllReadyH.cons (by simp only [List.getElem?_toArray, List.getElem?_cons_zero, List.getElem?_cons_succ]; rfl) (fun K hK => ?_) AllReadyH.nil
      go_simp
      refine (HEB.out _ HYB.out).mono ?_
      rintro e s1 ⟨rfl, rfl⟩
      refine hK.out _ _ HSD.out (fun _ => ?_)
      clear hK K
      try simp only [Act.put, List.setIfInBounds_toArray, List.set_cons_zero, List.set_cons_succ]
      refine wpAnyH_ready (rs := [17]) (by kernel_rfl) (by simp) ?_
      refine AllReadyH.cons (by simp only [List.getElem?_toArray, List.getElem?_cons_zero, List.getElem?_cons_succ]; rfl) (fun K hK => ?_) AllReadyH.nil
      go_simp
      refine (HEC.out _).mono ?_
      rintro e s1 ⟨rfl, rfl⟩
      refine hK.out _ _ HSD.out (fun _ => ?_)
      clear hK K
      try simp only [Act.put, List.setIfInBounds_toArray, List.set_cons_zero, List.set_cons_succ]
      refine wpAnyH_ready (rs := [18]) (by kernel_rfl) (by simp) ?_
      refine AllReadyH.cons (by simp only [List.getElem?_toArray, List.getElem?_cons_zero, List.getElem?_cons_succ]; rfl) (fun K hK => ?_) AllReadyH.nil
      go_simp
      have HBA := Lib.hid (ext_trans HYB.out (ext_alloc _ (.cells #[.int .u8 (nd : Int)] 5)))
      have HSA := Lib.hid (keep3f HP.out HBA.out)
      refine hK.out _ _ HSA.out (fun _ => ?_)
      clear hK K
      try simp only [Act.put, List.setIfInBounds_toArray, List.set_cons_zero, List.set_cons_succ]
      refine wpAnyH_ready (rs := [19]) (by kernel_rfl) (by simp) ?_
      refine AllReadyH.cons (by simp only [List.getElem?_toArray, List.getElem?_cons_zero, List.getElem?_cons_succ]; rfl) (fun K hK => ?_) AllReadyH.nil
      refine step_append_row isByte _ rfl _ _ 27 rfl w.heap.size 5 i0 (.int .u8 0) 1 Try.underlying27 hi hz0 hz1 hz2 rfl isByte_zero _ _ _ (by simp [Act.eval]) (hR.out.below HBA.out) _ _ _ _ (by simp [Act.eval]) (sees_box1 _ _ _) H1C.out HOC.out HQ4.out HQ5.out (ext_trans hB.out HBA.out).size ?_
      intro v2 w2 r2 g2
      have hrz := hR.out.below HBA.out
      have HXZ := Lib.hid (heap_grown (heap_below hX.out HBA.out) g2 (hrz.not_own (heap_below hX.out HBA.out) (by decide)))
      have HBZ := Lib.hid ((ext_trans hB.out HBA.out).grown g2 (ext_trans hB.out HBA.out).size (fun k hk => (hrz.own.lt k hk).1))
      have HS3 := Lib.hid (And.intro (cell_of_block HXZ.out 2) (And.intro (((HBZ.out.cell HBB.out).trans (hB.out.cell HBB.out).symm).trans HP.out.2.1) (((HBZ.out.cell HBB.out).trans (hB.out.cell HBB.out).symm).trans HP.out.2.2)))
      obtain ⟨a2z, c2z, rfl⟩ := r2.form
      have R2 := Lib.hid r2
      clear r2 g2 hrz
      refine hK.out _ _ HS3.out (fun _ => ?_)
      clear hK K
      try simp only [Act.put, List.setIfInBounds_toArray, List.set_cons_zero, List.set_cons_succ]
      refine wpAnyH_take (i := 20) (v := ?_) (by simp only [List.getElem?_toArray, List.getElem?_cons_zero, List.getElem?_cons_succ]; rfl) (by kernel_rfl) (by kernel_rfl) (by kernel_rfl) (fun _ _ _ h => h) (Or.inl ⟨by rfl, ?_⟩) HS3.out ?_
      rotate_left
      · intro w hSw
        (try dsimp only at hSw)
        obtain ⟨q0_, q1_, q2_⟩ := hSw
        go_simp
        try with_reducible rfl
      try simp only [Act.put, List.setIfInBounds_toArray, List.set_cons_zero, List.set_cons_succ]
      refine wpAnyH_done (by kernel_rfl) ?_ _
      refine NoPanic.normal ?_
      go_wp2
      go_roundw
      case rel => exact ⟨k + 1, _, _, by omega, by go_num, rfl, (by rw [HGS.out, List.map_append]; have h := R2.out; rw [HNC.out] at h; exact h), HXZ.out, HBZ.out⟩
      case measure => simp [intOf]; omega
    · obtain rfl : m2 = k := by omega
      rw [List.take_of_length_le (by rw [HG.out]; exact Nat.le_refl _)] at hR
      have hVV : k1.gates c.gates V0 = k1.vars c st ins := by rw [HV0.out]; rfl
      have hVA : ∀ u ∈ k1.gates c.gates V0, u.toNat ≤ 2 := gates_le2 _ _ HV2L.out
      rw [hVV] at hR hVA
      clear hVV
      obtain ⟨VS, hVS⟩ : ∃ VS, VS = k1.vars c st ins := ⟨_, rfl⟩
      rw [← hVS] at hR hVA
      have hVL : VS.length = N0 + m2 := by rw [hVS, Kd.vars_len, HG.out, HN1.out, HN2.out, HNE.out]; omega
      have HLL : Hid (∀ j, j < m1 → (c.lats.getD j (0, 0)).1 / 2 < N0 + m2 ∧ (c.lats.getD j (0, 0)).1 < 4294967296) := fun j hj => by
        have h1 := (HMC.out.lats _ (getD_mem (d := (0, 0)) (show j < c.lats.length by rw [HLA.out]; exact hj))).1
        have h2 : varsN c = n2 + m1 + m2 := by
          unfold varsN
          have h3 := HINS.out
          rw [HG.out, HLA.out]
          omega
        have h4 := HF.out
        have h5 := HNE.out
        omega
      have HVS := Lib.hid hVS
      have HVL := Lib.hid hVL
      have HVA := Lib.hid hVA
      have q2 := cell_of_block hX.out 2
      have q1 := cell_of_block hX.out 1
      obtain ⟨BB, hBB⟩ : ∃ B, B = wr.heap.size := ⟨_, rfl⟩
      have HVB : Hid (∀ q, (Value.slice va (N0 + m2) vc).ownBlock = some q → q < BB) := fun q hq => by rw [hBB]; exact (hR.out.own.lt q hq).2
      have HWB : Hid (w.heap.size ≤ BB) := by show _ ≤ _; rw [hBB]; exact hB.out.size
      have HBB0 : Hid (BB ≤ wr.heap.size) := by show _ ≤ _; rw [hBB]; exact Nat.le_refl _
      clear hVS hVL hVA hlt hk HLT hBB
      go_wp2_with fail
      clear q1 q2
      go_loopw [12, 11] (fun i v wr2 => ∃ (k : Nat) (a : Option Addr) (cp : Nat), k ≤ m1 ∧ i = .int .i64 k ∧ v = .slice a k cp ∧ Hid (Row isByte wr2 BB 5 (.slice a k cp) k (((k1.next c VS).take k).map bv)) ∧ Hid (Row isByte wr2 w.heap.size 5 (.slice va (N0 + m2) vc) (N0 + m2) (VS.map bv)) ∧ Hid (BB ≤ wr2.heap.size) ∧
        Hid (wr2.heap[w.heap.size]? = some (.cells #[.int .i64 c.ins, .slice b1 m1 d1, .slice b2 m2 d2, .slice b3 m3 d3, .slice b4 m4 d4, .slice b5 m5 d5] 26 (0, 0))) ∧ Hid (Below w.heap.size w wr2)) (fun i _ _ => m1 - (intOf i).toNat)
      case atStart =>
        exact ⟨0, none, 0, Nat.zero_le _, rfl, rfl, Row.nil _ _ _ _, hR.out, HBB0.out, hX.out, hB.out⟩
      case round =>
        clear hR hX hB
        obtain ⟨k, na, nc, hk, rfl, rfl, hN, hR, hAP, hX, hB⟩ := hrel
        by_cases hlt : k < m1
        · obtain ⟨bb, off, rfl, hbb⟩ := HC.out.s1.addr (show 0 < m1 by omega)
          obtain ⟨qx, qy⟩ := (HC.out.below hB.out).s1.cells k hlt (0, 0)
          have hl4 := HLL.out k hlt
          have hsn : (k1.next c VS).take (k + 1) = (k1.next c VS).take k ++ [k1.val VS (c.lats.getD k (0, 0)).1] := by
            have hkl : k < c.lats.length := by rw [HLA.out]; exact hlt
            rw [List.take_add_one]
            simp [Kd.next, List.getElem?_eq_getElem hkl, List.getD]
          obtain ⟨p, hp⟩ : ∃ t, t = c.lats.getD k (0, 0) := ⟨_, rfl⟩
          rw [← hp] at qx qy hl4 hsn
          obtain ⟨x, y⟩ := p
          simp only [nv32, nv8] at qx qy
          simp only at hl4
          obtain ⟨av, cv, hrv, _, hsv⟩ := hR.out.sees
          cases hrv
          have HV := refvalue_any VS va (N0 + m2) vc x wr hsv hl4.2
          rw [valueL_eq (by rw [HVL.out]; exact hl4.1) HVA.out] at HV
          obtain ⟨u, hu⟩ : ∃ u, u = k1.val VS x := ⟨_, rfl⟩
          rw [← hu] at HV hsn
          have HSN := Lib.hid hsn
          obtain ⟨nd, hnd⟩ : ∃ n, n = u.toNat := ⟨_, rfl⟩
          have HNC : Hid (Value.int .u8 (nd : Int) = bv u) := by show _ = _; rw [hnd]; rfl
          rw [← HNC.out] at HV
          have HV2 := Lib.hid HV
          have H1C : Hid (∀ v ∈ [Value.int .u8 ((nd : Nat) : Int)], v.oneCell' = true) := by rw [HNC.out]; exact bv_one [u]
          have HOC : Hid (∀ v ∈ [Value.int .u8 ((nd : Nat) : Int)], isByte v) := by rw [HNC.out]; exact isByte_all [u]
          have hI : (k : Int) < (m1 : Int) := by omega
          have W1' : IntKind.i64.wrap ((k : Int) + 1) = (k : Int) + 1 := IntWalk.i64_in _ (by have := HF.out; omega)
          have q1 := cell_of_block hX.out 1
          clear hsn hu hnd hp hsv HV hl4 qy
          go_wp2_with fail
          refine HV2.out.mono ?_
          rintro e s1 ⟨rfl, rfl⟩
          clear qx
          go_wp2_with (at_builtin; refine wpList_append_row isByte _ rfl _ _ 27 rfl BB 5 i0 (.int .u8 0) 1 Try.underlying27 hi hz0 hz1 hz2 rfl isByte_zero _ _ _ rfl (hN.out.below (ext_alloc _ _)) _ 1 1 [.int .u8 (nd : Int)] rfl ?qd1 H1C.out HOC.out ?qd4 ?qd5 ?qd6 ?_)
          case qd1 => exact sees_box1 _ _ _
          case qd4 => unfold maxLen; have := HF.out; omega
          case qd5 => have := HF.out; omega
          case qd6 => have := hAP.out; simp; omega
          intro v' w' r' g' _
          have hbz := ext_alloc s1 (.cells #[.int .u8 (nd : Int)] 5)
          have hnz := hN.out.below hbz
          have HXZ := Lib.hid (heap_grown (heap_below hX.out hbz) g' (hnz.not_own (heap_below hX.out hbz) (by decide)))
          have HBZ := Lib.hid ((ext_trans hB.out hbz).grown g' (ext_trans hB.out hbz).size (fun k hk => Nat.le_trans HWB.out (hnz.own.lt k hk).1))
          have HRZ := Lib.hid ((hR.out.below hbz).other fun q hq => g'.block q ((hR.out.below hbz).own.lt q hq).2 (fun e' => by have h1 := (hnz.own.lt q e'.symm).1; have h2 := HVB.out q hq; omega))
          have HAZ : Hid (BB ≤ w'.heap.size) := by
            have h1 := hAP.out
            have h2 := hbz.size
            have h3 := g'.size
            show _ ≤ _
            omega
          obtain ⟨a2z, c2z, rfl⟩ := r'.form
          have R2 := Lib.hid r'
          clear hbz hnz r' g' hN hR hAP hX hB q1
          go_wp2
          go_roundw
          case rel =>
            exact ⟨k + 1, _, _, by omega, by go_num, rfl, (by rw [HSN.out, List.map_append, List.map_take]; have h := R2.out; rw [HNC.out] at h; exact h), HRZ.out, HAZ.out, HXZ.out, HBZ.out⟩
          case measure => simp [intOf]; omega
        · obtain rfl : m1 = k := by omega
          have q1 := cell_of_block hX.out 1
          have hlen : (k1.next c VS).length = m1 := by rw [Kd.next_len, HLA.out]
          rw [List.take_of_length_le (by rw [hlen]; exact Nat.le_refl _)] at hN
          have HNL := Lib.hid hlen
          clear hlen
          go_wp2
          refine bodyPost_ret (v := .tuple #[.slice va (N0 + m2) vc, .slice na m1 nc, .int .i64 0]) ?_ rfl ?_
          · simp [results, Try.results66, go_sem]
          · rw [HO.out, ← HVS.out]
            refine ⟨(va, N0 + m2, vc), (na, m1, nc), rfl, ?_, ?_, hB.out⟩
            · simp only [if_true, HVL.out]; exact hR.out
            · simp only [if_true, HNL.out]; exact row_base hN.out HWB.out
end Go.Proofs.Ytdheldhecimfnaa
/- The reference's Run, by its contract. -/
namespace Go.Proofs.Ytdheldhecimfnaa
open Go Go.RowKit Go.Joins

theorem k1_val_le {vs : List UInt8} (h : ∀ u ∈ vs, u.toNat ≤ 2) (lit : Nat) : (k1.val vs lit).toNat ≤ 2 := by
  unfold Kd.val
  split
  · exact k1_nt_le _
  · by_cases e : lit / 2 < vs.length
    · exact h _ (getD_mem e)
    · simp [List.getD, List.getElem?_eq_none (Nat.le_of_not_lt e), k1]
theorem after_le {c : NormC} : ∀ (fs : List (List UInt8)) (st : List UInt8), (∀ u ∈ st, u.toNat ≤ 2) → (∀ f ∈ fs, ∀ u ∈ f, u.toNat ≤ 2) → ∀ u ∈ k1.after c st fs, u.toNat ≤ 2
  | [], _, h, _ => h
  | f :: r, st, h, hf => by
    rw [Kd.after]
    refine after_le r _ (fun u hu => ?_) (fun g hg => hf g (by simp [hg]))
    unfold Kd.next at hu
    obtain ⟨p, _, rfl⟩ := List.mem_map.1 hu
    refine k1_val_le (gates_le2 _ _ (fun v hv => ?_)) _
    rcases List.mem_cons.1 hv with rfl | hv
    · decide
    · rcases List.mem_append.1 hv with hv | hv
      · exact hf f (by simp) v hv
      · exact h v hv
theorem frameOk_at {c : NormC} {t : TraceC} (h : FitsC c t) (k : Nat) (hk : k < t.frames.length) : frameOk c (k1.after c t.init (t.frames.take k)) (t.frames.getD k []) = true := by
  unfold frameOk
  rw [mayC_iff.2 h.may, valsOk_iff.2 ⟨by rw [k1.after_len c _ _ h.init], after_le _ _ h.inits (fun f hf => h.values f (List.mem_of_mem_take hf))⟩, valsOk_iff.2 ⟨h.frames k hk, h.values _ (getD_mem hk)⟩]
  rfl
theorem SeesF.at {w : World} {b off n c : Nat} {ss : List Slc} {fs : List (List UInt8)} (h : SeesF w (some ⟨b, off, none⟩) n c ss fs) (k : Nat) (hk : k < n) : w.cell? ⟨b, off + k, none⟩ = some (slV (ss.getD k slc0)) := by
  have hl : ss.length = n := h.1.lenMap
  rw [(h.1.cell k hk).2, List.getElem?_map, List.getElem?_eq_getElem (by rw [hl]; exact hk)]
  simp [List.getD, List.getElem?_eq_getElem (show k < ss.length by rw [hl]; exact hk)]
theorem keep8r {w w' : World} {a0 a1 a2 a3 a4 a5 a6 a7 : Addr} {v0 v1 v2 v3 v4 v5 v6 v7 : Value} (h : w.cell? a0 = some v0 ∧ w.cell? a1 = some v1 ∧ w.cell? a2 = some v2 ∧ w.cell? a3 = some v3 ∧ w.cell? a4 = some v4 ∧ w.cell? a5 = some v5 ∧ w.cell? a6 = some v6 ∧ w.cell? a7 = some v7) (hb : Below w.heap.size w w') : w'.cell? a0 = some v0 ∧ w'.cell? a1 = some v1 ∧ w'.cell? a2 = some v2 ∧ w'.cell? a3 = some v3 ∧ w'.cell? a4 = some v4 ∧ w'.cell? a5 = some v5 ∧ w'.cell? a6 = some v6 ∧ w'.cell? a7 = some v7 := by
  obtain ⟨h0, h1, h2, h3, h4, h5, h6, h7⟩ := h
  have one : ∀ {a : Addr} {v : Value}, w.cell? a = some v → w'.cell? a = some v := fun {a v} h => (hb.cell (World.block_lt_of_cell? _ _ h)).trans h
  exact ⟨one h0, one h1, one h2, one h3, one h4, one h5, one h6, one h7⟩


structure SrInv (c : NormC) (t : TraceC) (w : World) (k : Nat) (W : World) (v : Value) (ss : List Slc) : Prop where
  len : ss.length = k
  row : W.ownsRow w.heap.size 27 1 v k (ss.map slV)
  rows : ∀ j, j < k → Row isByte W w.heap.size 5 (slV (ss.getD j slc0)) (varsAt c t j).length ((varsAt c t j).map bv)
  low : Below w.heap.size w W
theorem SrInv.below {c : NormC} {t : TraceC} {w : World} {k : Nat} {W W' : World} {v : Value} {ss : List Slc} (h : SrInv c t w k W v ss) (hb : Below W.heap.size W W') : SrInv c t w k W' v ss :=
  ⟨h.len, ownsN_below h.row hb, fun j hj => (h.rows j hj).below hb, ext_trans h.low hb⟩

set_option maxRecDepth 100000 in
set_option maxHeartbeats 3200000 in
theorem rrun_any (c : NormC) (t : TraceC) (s : CSlots) (st : TSlots) (w : World) (h : SeesCir w s c) (ht : SeesTr w st t) (hs : s.small) (hst : st.small) (hlo : -9223372036854775808 ≤ c.ins) (hhi : c.ins < 9223372036854775808) (hb1 : -9223372036854775808 ≤ t.bad ∧ t.bad < 9223372036854775808) (hw : Wide c) :
    Calls Try.prog 44 #[cirV c.ins s, traceV t.bad st] w (RunPost c t w) := by
  obtain ⟨i0, hi, hz0, hz1, hz2⟩ := info_parts info_u8s
  have HFIT := Lib.hid (fun W (hb : Below w.heap.size w W) => reffits_any c t s st W (h.below hb) (ht.below hb) hs hst hlo hhi hb1 hw)
  have HRF := Lib.hid (fun (sv iv : List UInt8) (a1 : Option Addr) (n1 c1 : Nat) (a2 : Option Addr) (n2 c2 : Nat) W (hb : Below w.heap.size w W) h1 h2 hn1 hn2 => rframe_any c s sv iv a1 n1 c1 a2 n2 c2 W (h.below hb) hs h1 h2 hn1 hn2 hlo hhi hw)
  have HFC : Hid (fitsS c t = true → FitsC c t) := fits_iff.1
  have HE : Hid (∀ e w', RunPost c t w e w' ↔ (fitsS c t = true → ∃ (v : Value) (ss : List Slc), e = .returned (.tuple #[v, .int .i64 0]) ∧ ss.length = t.frames.length ∧ w'.ownsRow w.heap.size 27 1 v t.frames.length (ss.map slV) ∧ (∀ j, j < t.frames.length → Row isByte w' w.heap.size 5 (slV (ss.getD j slc0)) (varsAt c t j).length ((varsAt c t j).map bv))) ∧ (fitsS c t = false → e = .returned (.tuple #[.slice none 0 0, .int .i64 2])) ∧ Below w.heap.size w w') := fun _ _ => Iff.rfl
  obtain ⟨q, hq⟩ : ∃ q, q = fitsS c t := ⟨_, rfl⟩
  rw [← hq] at HFIT HFC HE
  have HT := Lib.hid ht
  have HST := Lib.hid hst
  have HNF : Hid (t.frames.length = st.n2) := ht.s2.n_eq
  clear hq h ht hs hst hlo hhi hb1 hw
  unfold cirV traceV at *
  go_enter Try.func44, Try.ntmps44
  go_upto_region 1 with fail
  generalize hW : World.alloc (World.alloc w _) _ = W1
  have hb : Below w.heap.size w W1 := by subst hW; exact ext_trans (ext_alloc _ _) (ext_alloc _ _)
  have hx : W1.heap[w.heap.size]? = some (.cells #[.int .i64 c.ins, .slice s.a1 s.n1 s.c1, .slice s.a2 s.n2 s.c2, .slice s.a3 s.n3 s.c3, .slice s.a4 s.n4 s.c4, .slice s.a5 s.n5 s.c5] 26 (0, 0)) := by subst hW; exact heap_below (heap_new _ _ _ rfl) (ext_alloc _ _)
  have hy : W1.heap[w.heap.size + 1]? = some (.cells #[.int .i64 t.bad, .slice st.a1 st.n1 st.c1, .slice st.a2 st.n2 st.c2] 30 (0, 0)) := by subst hW; exact heap_new _ _ _ (by simp)
  have HB := Lib.hid hb
  have HX := Lib.hid hx
  have HY := Lib.hid hy
  clear hW hb hx hy
  have p0 := cell_of_block HX.out 0
  have p1 := cell_of_block HX.out 1
  have p2 := cell_of_block HX.out 2
  have p3 := cell_of_block HX.out 3
  have p4 := cell_of_block HX.out 4
  have p5 := cell_of_block HX.out 5
  have r0 := cell_of_block HY.out 0
  have r1 := cell_of_block HY.out 1
  have r2 := cell_of_block HY.out 2
  go_wp2_with fail
  refine (HFIT.out W1 HB.out).mono ?_
  rintro e W2 ⟨rfl, hb⟩
  have HX2 := Lib.hid (heap_below HX.out hb)
  have HY2 := Lib.hid (heap_below HY.out hb)
  have HB2 := Lib.hid (ext_trans HB.out hb)
  clear p0 p1 p2 p3 p4 p5 r0 r1 r2 HX HY HB hb
  cases q with
  | false =>
    go_wp2
    refine bodyPost_ret (v := .tuple #[.slice none 0 0, .int .i64 2]) ?_ rfl ?_
    · simp [results, Try.results44, go_sem]
    · exact (HE.out _ _).2 ⟨(fun h => by cases h), (fun _ => rfl), HB2.out⟩
  | true =>
  have HF := Lib.hid (HFC.out rfl)
  have hn2 : 0 < st.n2 := by rw [← HNF.out]; exact HF.out.one
  have hn256 : st.n2 ≤ 256 := by rw [← HNF.out]; exact HF.out.few
  have r1 := cell_of_block HY2.out 1
  have r2 := cell_of_block HY2.out 2
  go_wp2_with fail
  clear r1 r2
  go_loopw [8, 6, 7, 9, 10, 11] (fun i l sv _ _ _ wr => ∃ (k : Nat) (ga : Option Addr) (gc : Nat) (ss : List Slc) (sa : Option Addr) (sn sc : Nat), k ≤ st.n2 ∧ i = .int .i64 k ∧ l = .slice ga k gc ∧ sv = .slice sa sn sc ∧ Hid (SrInv c t w k wr (.slice ga k gc) ss) ∧ Hid (Sees wr sa sn sc ((k1.after c t.init (t.frames.take k)).map bv)) ∧
      Hid (wr.heap[w.heap.size]? = some (.cells #[.int .i64 c.ins, .slice s.a1 s.n1 s.c1, .slice s.a2 s.n2 s.c2, .slice s.a3 s.n3 s.c3, .slice s.a4 s.n4 s.c4, .slice s.a5 s.n5 s.c5] 26 (0, 0))) ∧ Hid (wr.heap[w.heap.size + 1]? = some (.cells #[.int .i64 t.bad, .slice st.a1 st.n1 st.c1, .slice st.a2 st.n2 st.c2] 30 (0, 0)))) (fun i _ _ _ _ _ _ => st.n2 - (intOf i).toNat)
  case atStart =>
    refine ⟨0, none, 0, [], _, _, _, Nat.zero_le _, rfl, rfl, rfl, ⟨rfl, ⟨rfl, .inl ⟨rfl, rfl⟩⟩, fun j hj => absurd hj (by omega), HB2.out⟩, ?_, HX2.out, HY2.out⟩
    exact HT.out.s1.below HB2.out
  case round =>
    clear HX2 HY2
    obtain ⟨k, ga, gc, ss, sa, sn, sc, hk, rfl, rfl, rfl, hI, hS, hX, hY⟩ := hrel
    by_cases hlt : k < st.n2
    · obtain ⟨tb, off, ha2, _⟩ := HT.out.s2.1.addr hn2
      have hTr := HT.out.below hI.out.low
      have hs2 := hTr.s2
      rw [ha2] at hs2
      have hcx := hs2.at k hlt
      have hfs := hs2.each k (by rw [HNF.out]; exact hlt)
      have hfl : (st.ss.getD k slc0).2.1 ≤ 1048576 := HST.out.each _ (getD_mem (by rw [hs2.1.lenMap]; exact hlt))
      obtain ⟨x, hx⟩ : ∃ x : Slc, x = st.ss.getD k slc0 := ⟨_, rfl⟩
      rw [← hx] at hcx hfs hfl
      obtain ⟨xa, xn, xc⟩ := x
      simp only [slV] at hcx
      simp only at hfs hfl
      have hsl := hS.out.lenMap
      have hok := frameOk_at HF.out k (by rw [HNF.out]; exact hlt)
      have hlen := k1.after_len c (t.frames.take k) t.init HF.out.init
      have hsn : sn ≤ 1048576 := by
        rw [← hsl, hlen]
        have := HF.out.may.few
        unfold varsN at this
        omega
      have hcall := fun W (hb : Below w.heap.size w W) (h2 : Below wr.heap.size wr W) => HRF.out (k1.after c t.init (t.frames.take k)) (t.frames.getD k []) sa sn sc xa xn xc W hb (hS.out.below h2) (hfs.below h2) hsn hfl
      rw [hok] at hcall
      have hva : k1.vars c (k1.after c t.init (t.frames.take k)) (t.frames.getD k []) = varsAt c t k := rfl
      have hna : k1.next c (varsAt c t k) = k1.after c t.init (t.frames.take (k + 1)) := by
        have hkl : k < t.frames.length := by rw [HNF.out]; exact hlt
        rw [List.take_add_one, List.getElem?_eq_getElem hkl]
        simp only [Option.toList_some]
        rw [Kd.after_snoc]
        unfold varsAt
        simp [List.getD, List.getElem?_eq_getElem hkl]
      rw [hva, hna] at hcall
      have HCALL := Lib.hid hcall
      have p2 := cell_of_block hY.out 2
      rw [ha2] at p2
      have HS0 := Lib.hid (And.intro (cell_of_block hX.out 0) (And.intro (cell_of_block hX.out 1) (And.intro (cell_of_block hX.out 2) (And.intro (cell_of_block hX.out 3) (And.intro (cell_of_block hX.out 4) (And.intro (cell_of_block hX.out 5) (And.intro p2 hcx)))))))
      have W1' : IntKind.i64.wrap ((k : Int) + 1) = (k : Int) + 1 := IntWalk.i64_in _ (by omega)
      have hI1 : (k : Int) < (st.n2 : Int) := by omega
      have hI0 : (0 : Int) ≤ (k : Int) := by omega
      have HA2 := Lib.hid ha2
      clear hcall hva hna hok hlen hsl hx hs2 hTr hcx hfs hfl hsn ha2
      go_upto_region 8 with fail
      clear p2
      refine wp_region_noPanic ?_
      refine wp_region_held (S := fun w' => w'.cell? ⟨w.heap.size, 0, none⟩ = some (.int .i64 c.ins) ∧ w'.cell? ⟨w.heap.size, 1, none⟩ = some (.slice s.a1 s.n1 s.c1) ∧ w'.cell? ⟨w.heap.size, 2, none⟩ = some (.slice s.a2 s.n2 s.c2) ∧ w'.cell? ⟨w.heap.size, 3, none⟩ = some (.slice s.a3 s.n3 s.c3) ∧ w'.cell? ⟨w.heap.size, 4, none⟩ = some (.slice s.a4 s.n4 s.c4) ∧ w'.cell? ⟨w.heap.size, 5, none⟩ = some (.slice s.a5 s.n5 s.c5) ∧ w'.cell? ⟨w.heap.size + 1, 2, none⟩ = some (.slice (some ⟨tb, off, none⟩) st.n2 st.c2) ∧ w'.cell? ⟨tb, off + k, none⟩ = some (.slice xa xn xc)) (by kernel_rfl) ?_
      generalize hY2 : ({ wr with drawn := wr.drawn + 1 } : World) = Y0
      have hY0 : Below wr.heap.size wr Y0 := by subst hY2; exact (Below.refl _ _).drew
      have HSD := Lib.hid (keep8r HS0.out hY0)
      have HYB := Lib.hid hY0
      clear hY0 hY2
      refine wpAnyH_take (i := 0) (v := ?_) (by simp only [List.getElem?_toArray, List.getElem?_cons_zero]; rfl) (by kernel_rfl) (by kernel_rfl) (by kernel_rfl) (fun _ _ _ h => h) (Or.inl ⟨by rfl, ?_⟩) HSD.out ?_
      rotate_left
      · intro w hSw
        (try dsimp only at hSw)
        obtain ⟨q0_, q1_, q2_, q3_, q4_, q5_, q6_, q7_⟩ := hSw
        go_simp
        try with_reducible rfl
      try simp only [Act.put, List.setIfInBounds_toArray, List.set_cons_zero, List.set_cons_succ]
      refine wpAnyH_take (i := 1) (v := ?_) (by simp only [List.getElem?_toArray, List.getElem?_cons_zero, List.getElem?_cons_succ]; rfl) (by kernel_rfl) (by kernel_rfl) (by kernel_rfl) (fun _ _ _ h => h) (Or.inl ⟨by rfl, ?_⟩) HSD.out ?_
      rotate_left
      · intro w hSw
        (try dsimp only at hSw)
        obtain ⟨q0_, q1_, q2_, q3_, q4_, q5_, q6_, q7_⟩ := hSw
        go_simp
        try with_reducible rfl
      try simp only [Act.put, List.setIfInBounds_toArray, List.set_cons_zero, List.set_cons_succ]
      refine wpAnyH_take (i := 2) (v := ?_) (by simp only [List.getElem?_toArray, List.getElem?_cons_zero, List.getElem?_cons_succ]; rfl) (by kernel_rfl) (by kernel_rfl) (by kernel_rfl) (fun _ _ _ h => h) (Or.inl ⟨by rfl, ?_⟩) HSD.out ?_
      rotate_left
      · intro w hSw
        (try dsimp only at hSw)
        obtain ⟨q0_, q1_, q2_, q3_, q4_, q5_, q6_, q7_⟩ := hSw
        go_simp
        try with_reducible rfl
      try simp only [Act.put, List.setIfInBounds_toArray, List.set_cons_zero, List.set_cons_succ]
      refine wpAnyH_take (i := 3) (v := ?_) (by simp only [List.getElem?_toArray, List.getElem?_cons_zero, List.getElem?_cons_succ]; rfl) (by kernel_rfl) (by kernel_rfl) (by kernel_rfl) (fun _ _ _ h => h) (Or.inl ⟨by rfl, ?_⟩) HSD.out ?_
      rotate_left
      · intro w hSw
        (try dsimp only at hSw)
        obtain ⟨q0_, q1_, q2_, q3_, q4_, q5_, q6_, q7_⟩ := hSw
        go_simp
        try with_reducible rfl
      try simp only [Act.put, List.setIfInBounds_toArray, List.set_cons_zero, List.set_cons_succ]
      refine wpAnyH_take (i := 4) (v := ?_) (by simp only [List.getElem?_toArray, List.getElem?_cons_zero, List.getElem?_cons_succ]; rfl) (by kernel_rfl) (by kernel_rfl) (by kernel_rfl) (fun _ _ _ h => h) (Or.inl ⟨by rfl, ?_⟩) HSD.out ?_
      rotate_left
      · intro w hSw
        (try dsimp only at hSw)
        obtain ⟨q0_, q1_, q2_, q3_, q4_, q5_, q6_, q7_⟩ := hSw
        go_simp
        try with_reducible rfl
      try simp only [Act.put, List.setIfInBounds_toArray, List.set_cons_zero, List.set_cons_succ]
      refine wpAnyH_take (i := 5) (v := ?_) (by simp only [List.getElem?_toArray, List.getElem?_cons_zero, List.getElem?_cons_succ]; rfl) (by kernel_rfl) (by kernel_rfl) (by kernel_rfl) (fun _ _ _ h => h) (Or.inl ⟨by rfl, ?_⟩) HSD.out ?_
      rotate_left
      · intro w hSw
        (try dsimp only at hSw)
        obtain ⟨q0_, q1_, q2_, q3_, q4_, q5_, q6_, q7_⟩ := hSw
        go_simp
        try with_reducible rfl
      try simp only [Act.put, List.setIfInBounds_toArray, List.set_cons_zero, List.set_cons_succ]
      refine wpAnyH_take (i := 6) (v := ?_) (by simp only [List.getElem?_toArray, List.getElem?_cons_zero, List.getElem?_cons_succ]; rfl) (by kernel_rfl) (by kernel_rfl) (by kernel_rfl) (fun _ _ _ h => h) (Or.inl ⟨by rfl, ?_⟩) HSD.out ?_
      rotate_left
      · intro w hSw
        (try dsimp only at hSw)
        obtain ⟨q0_, q1_, q2_, q3_, q4_, q5_, q6_, q7_⟩ := hSw
        go_simp
        try with_reducible rfl
      try simp only [Act.put, List.setIfInBounds_toArray, List.set_cons_zero, List.set_cons_succ]
      refine wpAnyH_ready (rs := [7]) (by kernel_rfl) (by simp) ?_
      refine AllReadyH.cons (by simp only [List.getElem?_toArray, List.getElem?_cons_zero, List.getElem?_cons_succ]; rfl) (fun K hK => ?_) AllReadyH.nil
      go_simp
      refine (HCALL.out _ (ext_trans hI.out.low HYB.out) HYB.out).mono ?_
      rintro e s1 hp
      obtain ⟨⟨va, vn, vc⟩, ⟨na, nn, nc⟩, rfl, rv, rn, b1⟩ := hp
      simp only [if_true] at rv rn ⊢
      simp only [slV] at rv rn ⊢
      have HBS := Lib.hid (ext_trans HYB.out b1)
      have HS1 := Lib.hid (keep8r HSD.out b1)
      have HRV := Lib.hid (row_base rv HYB.out.size)
      have HRN := Lib.hid (row_base (row_base rn HYB.out.size) hI.out.low.size)
      clear b1 rv rn
      refine hK.out _ _ HS1.out (fun _ => ?_)
      clear hK K
      try simp only [Act.put, List.setIfInBounds_toArray, List.set_cons_zero, List.set_cons_succ]
      refine wpAnyH_take (i := 8) (v := ?_) (by simp only [List.getElem?_toArray, List.getElem?_cons_zero, List.getElem?_cons_succ]; rfl) (by kernel_rfl) (by kernel_rfl) (by kernel_rfl) (fun _ _ _ h => h) (Or.inl ⟨by rfl, ?_⟩) HS1.out ?_
      rotate_left
      · intro w hSw
        (try dsimp only at hSw)
        obtain ⟨q0_, q1_, q2_, q3_, q4_, q5_, q6_, q7_⟩ := hSw
        go_simp
        try with_reducible rfl
      try simp only [Act.put, List.setIfInBounds_toArray, List.set_cons_zero, List.set_cons_succ]
      refine wpAnyH_take (i := 9) (v := ?_) (by simp only [List.getElem?_toArray, List.getElem?_cons_zero, List.getElem?_cons_succ]; rfl) (by kernel_rfl) (by kernel_rfl) (by kernel_rfl) (fun _ _ _ h => h) (Or.inl ⟨by rfl, ?_⟩) HS1.out ?_
      rotate_left
      · intro w hSw
        (try dsimp only at hSw)
        obtain ⟨q0_, q1_, q2_, q3_, q4_, q5_, q6_, q7_⟩ := hSw
        go_simp
        try with_reducible rfl
      try simp only [Act.put, List.setIfInBounds_toArray, List.set_cons_zero, List.set_cons_succ]
      refine wpAnyH_take (i := 10) (v := ?_) (by simp only [List.getElem?_toArray, List.getElem?_cons_zero, List.getElem?_cons_succ]; rfl) (by kernel_rfl) (by kernel_rfl) (by kernel_rfl) (fun _ _ _ h => h) (Or.inl ⟨by rfl, ?_⟩) HS1.out ?_
      rotate_left
      · intro w hSw
        (try dsimp only at hSw)
        obtain ⟨q0_, q1_, q2_, q3_, q4_, q5_, q6_, q7_⟩ := hSw
        go_simp
        try with_reducible rfl
      try simp only [Act.put, List.setIfInBounds_toArray, List.set_cons_zero, List.set_cons_succ]
      refine wpAnyH_take (i := 11) (v := ?_) (by simp only [List.getElem?_toArray, List.getElem?_cons_zero, List.getElem?_cons_succ]; rfl) (by kernel_rfl) (by kernel_rfl) (by kernel_rfl) (fun _ _ _ h => h) (Or.inl ⟨by rfl, ?_⟩) HS1.out ?_
      rotate_left
      · intro w hSw
        (try dsimp only at hSw)
        obtain ⟨q0_, q1_, q2_, q3_, q4_, q5_, q6_, q7_⟩ := hSw
        go_simp
        try with_reducible rfl
      try simp only [Act.put, List.setIfInBounds_toArray, List.set_cons_zero, List.set_cons_succ]
      refine wpAnyH_take (i := 12) (v := ?_) (by simp only [List.getElem?_toArray, List.getElem?_cons_zero, List.getElem?_cons_succ]; rfl) (by kernel_rfl) (by kernel_rfl) (by kernel_rfl) (fun _ _ _ h => h) (Or.inl ⟨by rfl, ?_⟩) HS1.out ?_
      rotate_left
      · intro w hSw
        (try dsimp only at hSw)
        obtain ⟨q0_, q1_, q2_, q3_, q4_, q5_, q6_, q7_⟩ := hSw
        go_simp
        try with_reducible rfl
      try simp only [Act.put, List.setIfInBounds_toArray, List.set_cons_zero, List.set_cons_succ]
      refine wpAnyH_take (i := 13) (v := ?_) (by simp only [List.getElem?_toArray, List.getElem?_cons_zero, List.getElem?_cons_succ]; rfl) (by kernel_rfl) (by kernel_rfl) (by kernel_rfl) (fun _ _ _ h => h) (Or.inl ⟨by rfl, ?_⟩) HS1.out ?_
      rotate_left
      · intro w hSw
        (try dsimp only at hSw)
        obtain ⟨q0_, q1_, q2_, q3_, q4_, q5_, q6_, q7_⟩ := hSw
        go_simp
        try with_reducible rfl
      try simp only [Act.put, List.setIfInBounds_toArray, List.set_cons_zero, List.set_cons_succ]
      refine wpAnyH_take (i := 14) (v := ?_) (by simp only [List.getElem?_toArray, List.getElem?_cons_zero, List.getElem?_cons_succ]; rfl) (by kernel_rfl) (by kernel_rfl) (by kernel_rfl) (fun _ _ _ h => h) (Or.inl ⟨by rfl, ?_⟩) HS1.out ?_
      rotate_left
      · intro w hSw
        (try dsimp only at hSw)
        obtain ⟨q0_, q1_, q2_, q3_, q4_, q5_, q6_, q7_⟩ := hSw
        go_simp
        try with_reducible rfl
      try simp only [Act.put, List.setIfInBounds_toArray, List.set_cons_zero, List.set_cons_succ]
      refine wpAnyH_done (by kernel_rfl) ?_ _
      refine NoPanic.normal ?_
      have HI1 := Lib.hid (hI.out.below HBS.out)
      have HX1 := Lib.hid (heap_below hX.out HBS.out)
      have HY1 := Lib.hid (heap_below hY.out HBS.out)
      have HIW := Lib.hid (ext_trans hI.out.low HBS.out)
      have HRV2 := Lib.hid (row_base HRV.out hI.out.low.size)
      clear hI hX hY hS HS0 HSD HS1 HCALL HRV
      go_wp2_with (at_builtin; refine wpList_append_own_at _ rfl _ _ 28 rfl w.heap.size 27 i0 (.slice none 0 0) 1 24 Try.underlying28 hi hz0 hz1 hz2 rfl (by decide) (.slice ga k gc) k (ss.map slV) rfl (ownsN_below HI1.out.row (ext_alloc _ _)) ⟨s1.heap.size, 0, none⟩ 1 1 [.slice va vn vc] rfl rfl (cell_one_new _ _ _) (by simp [Value.oneCell']) ?c4 ?c5 ?c6 ?_)
      case c4 => unfold maxLen; omega
      case c5 => omega
      case c6 => have := HIW.out.size; simp; omega
      intro v' w1 hown' hgrow _ _
      have hal := ext_alloc s1 (.cells #[.slice va vn vc] 27)
      have hro := ownsN_below HI1.out.row hal
      obtain ⟨WA, hWA⟩ : ∃ WA, WA = s1.alloc (.cells #[.slice va vn vc] 27) := ⟨_, rfl⟩
      rw [← hWA] at hgrow hal hro
      have hb1' : Below w.heap.size w w1 := (ext_trans HIW.out hal).grown hgrow (ext_trans HIW.out hal).size (fun q hq => (hro.lt q hq).1)
      have HXW := Lib.hid (heap_grown (heap_below HX1.out hal) hgrow (ownsN_notown hro (heap_below HX1.out hal) (by decide)))
      have HYW := Lib.hid (heap_grown (heap_below HY1.out hal) hgrow (ownsN_notown hro (heap_below HY1.out hal) (by decide)))
      have HNEW : Hid (SrInv c t w (k + 1) w1 v' (ss ++ [(va, vn, vc)])) := by
        refine ⟨by simp [HI1.out.len], by simpa [slV] using hown', fun j hj => ?_, hb1'⟩
        have one : ∀ {x : Slc} {n : Nat} {V : List UInt8}, Row isByte WA w.heap.size 5 (slV x) n (V.map bv) → Row isByte w1 w.heap.size 5 (slV x) n (V.map bv) := fun {x n V} hx => row_grown hx hro hgrow (by decide)
        by_cases e : j = k
        · subst e
          have e1 : (ss ++ [(va, vn, vc)]).getD j slc0 = (va, vn, vc) := by rw [← HI1.out.len]; simp
          rw [e1]
          exact one (HRV2.out.below hal)
        · have e1 : (ss ++ [(va, vn, vc)]).getD j slc0 = ss.getD j slc0 := by simp [List.getD, List.getElem?_append_left (show j < ss.length by rw [HI1.out.len]; omega)]
          rw [e1]
          exact one ((HI1.out.rows j (by omega)).below hal)
      have HSN : Hid (Sees w1 na nn nc ((k1.after c t.init (t.frames.take (k + 1))).map bv)) := (row_sees_slice (row_grown (HRN.out.below hal) hro hgrow (by decide))).2
      obtain ⟨gx, gxc, rfl⟩ := ownsN_form hown'
      clear hal hro hWA hb1' hown' hgrow
      go_wp2
      go_roundw
      case rel => exact ⟨k + 1, gx, gxc, _, na, nn, nc, by omega, by go_num, rfl, rfl, HNEW.out, HSN.out, HXW.out, HYW.out⟩
      case measure => simp [intOf]; omega
    · obtain rfl : k = st.n2 := by omega
      have p2 := cell_of_block hY.out 2
      go_wp2
      refine bodyPost_ret (v := .tuple #[.slice ga st.n2 gc, .int .i64 0]) ?_ rfl ?_
      · simp [results, Try.results44, go_sem]
      · refine (HE.out _ _).2 ⟨(fun _ => ⟨_, ss, rfl, ?_, ?_, ?_⟩), (fun h => by cases h), hI.out.low⟩
        · rw [hI.out.len, HNF.out]
        · rw [HNF.out]; exact hI.out.row
        · rw [HNF.out]; exact hI.out.rows
end Go.Proofs.Ytdheldhecimfnaa
/- Owned lists of lists; owned traces. -/
namespace Go.Proofs.Ytdheldhecimfnaa
open Go Go.RowKit Go.Joins
/-- All lists are of a size that can be. -/
def smallF (ss : List Slc) : Prop := ∀ x ∈ ss, x.2.1 ≤ 1048576
/-- The slice (a, n, c) owns a row of slices that own what they read. -/
structure OwnLL (w : World) (base : Nat) (a : Option Addr) (n c : Nat) (ss : List Slc) (FL : List (List UInt8)) : Prop where
  len : FL.length = n
  lens : ss.length = n
  row : w.ownsRow base 27 1 (.slice a n c) n (ss.map slV)
  rows : ∀ j, j < n → Row isByte w base 5 (slV (ss.getD j slc0)) (FL.getD j []).length ((FL.getD j []).map bv)
theorem OwnLL.below {w w' : World} {base : Nat} {a : Option Addr} {n c : Nat} {ss : List Slc} {FL : List (List UInt8)} (h : OwnLL w base a n c ss FL) (hb : Below w.heap.size w w') : OwnLL w' base a n c ss FL :=
  ⟨h.len, h.lens, ownsN_below h.row hb, fun j hj => (h.rows j hj).below hb⟩
theorem OwnLL.sees {w : World} {base : Nat} {a : Option Addr} {n c : Nat} {ss : List Slc} {FL : List (List UInt8)} (h : OwnLL w base a n c ss FL) : SeesF w a n c ss FL :=
  ⟨(owns_sees_slice h.row).2, by rw [h.len, h.lens], fun k hk => (row_sees_slice (h.rows k (by rw [← h.len]; exact hk))).2⟩
theorem OwnLL.small {w : World} {base : Nat} {a : Option Addr} {n c : Nat} {ss : List Slc} {FL : List (List UInt8)} (h : OwnLL w base a n c ss FL) (hs : ∀ j, j < n → (FL.getD j []).length ≤ 1048576) : smallF ss := by
  refine all_of_getD (d := slc0) fun k hk => ?_
  have hk' : k < n := by rw [← h.lens]; exact hk
  have := (row_sees_slice (h.rows k hk')).1
  have h2 := hs k hk'
  omega
theorem OwnLL.base_le {w : World} {base b2 : Nat} {a : Option Addr} {n c : Nat} {ss : List Slc} {FL : List (List UInt8)} (h : OwnLL w base a n c ss FL) (hb : b2 ≤ base) : OwnLL w b2 a n c ss FL := by
  refine ⟨h.len, h.lens, ?_, fun j hj => (h.rows j hj).base_le hb⟩
  obtain ⟨hl, rest⟩ := h.row
  rcases rest with ⟨h2, h3⟩ | ⟨g, cap, cur, h2, hg, hh⟩
  · exact ⟨hl, .inl ⟨h2, h3⟩⟩
  · exact ⟨hl, .inr ⟨g, cap, cur, h2, Nat.le_trans hb hg, hh⟩⟩
theorem OwnLL.nil (w : World) (base : Nat) : OwnLL w base none 0 0 [] [] := ⟨rfl, rfl, ⟨rfl, .inl ⟨rfl, rfl⟩⟩, fun j hj => absurd hj (by omega)⟩
theorem OwnLL.move {w w' : World} {base B : Nat} {a : Option Addr} {n c : Nat} {ss : List Slc} {FL : List (List UInt8)} (h : OwnLL w base a n c ss FL) (hk : ∀ D, base ≤ D → w'.heap[D]? = w.heap[D]?) (hB : B ≤ base) : OwnLL w' B a n c ss FL := by
  refine OwnLL.base_le ⟨h.len, h.lens, ownsN_other h.row fun q hq => hk q ?_, fun j hj => (h.rows j hj).other fun q hq => hk q ((h.rows j hj).own.lt q hq).1⟩ hB
  obtain ⟨hl, rest⟩ := h.row
  rcases rest with ⟨h2, _⟩ | ⟨g, cap, cur, h2, hg, _⟩
  · rw [h2] at hq; cases hq
  · rw [h2] at hq
    have : g = q := by simpa [Value.ownBlock] using hq
    subst this
    exact hg
/-- A trace's slots own what they read; the frames' list may have room. -/
structure OwnTA (w : World) (base : Nat) (s : TSlots) (t : TraceC) : Prop where
  o1 : Row isByte w base 5 (.slice s.a1 s.n1 s.c1) t.init.length (t.init.map bv)
  ll : OwnLL w base s.a2 s.n2 s.c2 s.ss t.frames
theorem OwnTA.below {w w' : World} {base : Nat} {s : TSlots} {t : TraceC} (h : OwnTA w base s t) (hb : Below w.heap.size w w') : OwnTA w' base s t := ⟨h.o1.below hb, h.ll.below hb⟩
theorem OwnTA.sees {w : World} {base : Nat} {s : TSlots} {t : TraceC} (h : OwnTA w base s t) : SeesTr w s t := ⟨(row_sees_slice h.o1).2, h.ll.sees⟩
theorem OwnTA.move {w w' : World} {base B : Nat} {s : TSlots} {t : TraceC} (h : OwnTA w base s t) (hk : ∀ D, base ≤ D → w'.heap[D]? = w.heap[D]?) (hB : B ≤ base) : OwnTA w' B s t :=
  ⟨(h.o1.other fun q hq => hk q (h.o1.own.lt q hq).1).base_le hB, h.ll.move hk hB⟩
theorem ownTA_nil (w : World) (base : Nat) : OwnTA w base ⟨none, 0, 0, none, 0, 0, []⟩ ⟨0, [], []⟩ := ⟨⟨rfl, .inl ⟨rfl, rfl⟩⟩, OwnLL.nil _ _⟩
theorem tslots_nil : TSlots.small ⟨none, 0, 0, none, 0, 0, []⟩ := ⟨by simp, by simp, fun x hx => by cases hx⟩
theorem ownsN_base_le {w : World} {base b2 k : Nat} {e : TypeId} {v : Value} {n : Nat} {xs : List Value} (h : w.ownsRow base e k v n xs) (hb : b2 ≤ base) : w.ownsRow b2 e k v n xs := by
  obtain ⟨hl, rest⟩ := h
  rcases rest with ⟨h2, h3⟩ | ⟨g, cap, cur, h2, hg, hh⟩
  · exact ⟨hl, .inl ⟨h2, h3⟩⟩
  · exact ⟨hl, .inr ⟨g, cap, cur, h2, Nat.le_trans hb hg, hh⟩⟩
end Go.Proofs.Ytdheldhecimfnaa
/- A region of a function's body, taken out by its number. -/
namespace Go.Proofs.Ytdheldhecimfnaa
open Go
def findRegion (n : Nat) : Code → Option Code
  | .region k o d => if k = n then some (.region k o d) else none
  | .seq a b => match findRegion n a with
    | some c => some c
    | none => findRegion n b
  | .block _ c => findRegion n c
  | .scope c => findRegion n c
  | .loop c => findRegion n c
  | .cond _ a b => match findRegion n a with
    | some c => some c
    | none => findRegion n b
  | _ => none
end Go.Proofs.Ytdheldhecimfnaa
/- A region of the reference's Read, in whatever order. -/
namespace Go.Proofs.Ytdheldhecimfnaa
open Go Go.RowKit Go.Joins

noncomputable def codeSRReadR : Code := ((Try.f43.body.bind (findRegion 1)).getD .skip)
set_option maxRecDepth 100000 in
set_option maxHeartbeats 25600000 in
theorem reg_SRReadR (P : Nat) (bad : Int) (a1 : Option Addr) (n1 c1 : Nat) (XS : List Value) (X0 : World)
    (HELDB : Hid (∀ W, Below X0.heap.size X0 W → (W.cell? ⟨P, 0, none⟩ = some (.int .i64 bad) ∧ W.cell? ⟨P, 1, none⟩ = some (.slice a1 n1 c1))))
    (E1 : Hid (∀ W, Below X0.heap.size X0 W → Calls Try.prog 65 #[.slice a1 n1 c1] W fun e w' => ∃ ra rc, e = .returned (.slice ra n1 rc) ∧ Row isByte w' W.heap.size 5 (.slice ra n1 rc) n1 XS ∧ Below W.heap.size W w'))
    (QQ : Exit → Act → World → Prop)
    {v0 v2 v3 v4 v5 v6 v7 v8 v9 v10 v11 v12 v13 v14 v15 v16 v17 v18 v19 v20 v21 v22 v23 v24 v25 v26 v27 v28 v29 : Value}
    (hK : ∀ (G : Nat) (ra : Option Addr) (rc : Nat) (wx : World) (u5 u6 u7 u8 u9 u10 : Value), X0.heap.size ≤ G → wx.heap[G]? = some (.cells #[.int .i64 bad, .slice ra n1 rc, .slice none 0 0] 30 (0, 0)) → Row isByte wx X0.heap.size 5 (.slice ra n1 rc) n1 XS → Below X0.heap.size X0 wx → QQ .normal ⟨#[v0, .pointer (some ⟨P, 0, .none⟩), v2, .pointer (some ⟨G, 0, .none⟩), v4, u5, u6, u7, u8, u9, u10, v11, v12, v13, v14, v15, v16, v17, v18, v19, v20, v21, 
      v22, v23, v24, v25, v26, v27, v28, v29], []⟩ wx) :
    Code.wp Try.prog codeSRReadR QQ ⟨#[v0, .pointer (some ⟨P, 0, .none⟩), v2, v3, v4, v5, v6, v7, v8, v9, v10, v11, v12, v13, v14, v15, v16, v17, v18, v19, v20, v21, v22, v23, v24, v25, v26, 
      v27, v28, v29], []⟩ X0 := by
  conv => arg 2; whnf
  refine wp_region_noPanic ?_
  refine wp_region_held (S := fun w' => w'.cell? ⟨P, 0, none⟩ = some (.int .i64 bad) ∧ w'.cell? ⟨P, 1, none⟩ = some (.slice a1 n1 c1)) (by kernel_rfl) ?_
  generalize hY : ({ X0 with drawn := X0.drawn + 1 } : World) = Y0
  have hY0 : Below X0.heap.size X0 Y0 := by subst hY; exact (Below.refl _ _).drew
  have HELD := Lib.hid (HELDB.out Y0 hY0)
  have HBc := Lib.hid hY0
  clear hY hY0
  refine wpAnyH_take (i := 0) (v := ?_) (by simp only [List.getElem?_toArray, List.getElem?_cons_zero]; rfl) (by kernel_rfl) (by kernel_rfl) (by kernel_rfl) (fun _ _ _ h => h) (Or.inl ⟨by rfl, ?_⟩) HELD.out ?_
  rotate_left
  · intro w hSw
    (try dsimp only at hSw)
    obtain ⟨q0, q1⟩ := hSw
    go_simp
    try with_reducible rfl
  try simp only [Act.put, List.setIfInBounds_toArray, List.set_cons_zero, List.set_cons_succ]
  refine wpAnyH_take (i := 1) (v := ?_) (by simp only [List.getElem?_toArray, List.getElem?_cons_zero, List.getElem?_cons_succ]; rfl) (by kernel_rfl) (by kernel_rfl) (by kernel_rfl) (fun _ _ _ h => h) (Or.inl ⟨by rfl, ?_⟩) HELD.out ?_
  rotate_left
  · intro w hSw
    (try dsimp only at hSw)
    obtain ⟨q0, q1⟩ := hSw
    go_simp
    try with_reducible rfl
  try simp only [Act.put, List.setIfInBounds_toArray, List.set_cons_zero, List.set_cons_succ]
  refine wpAnyH_take (i := 2) (v := ?_) (by simp only [List.getElem?_toArray, List.getElem?_cons_zero, List.getElem?_cons_succ]; rfl) (by kernel_rfl) (by kernel_rfl) (by kernel_rfl) (fun _ _ _ h => h) (Or.inl ⟨by rfl, ?_⟩) HELD.out ?_
  rotate_left
  · intro w hSw
    (try dsimp only at hSw)
    obtain ⟨q0, q1⟩ := hSw
    go_simp
    try with_reducible rfl
  try simp only [Act.put, List.setIfInBounds_toArray, List.set_cons_zero, List.set_cons_succ]
  refine wpAnyH_take (i := 3) (v := ?_) (by simp only [List.getElem?_toArray, List.getElem?_cons_zero, List.getElem?_cons_succ]; rfl) (by kernel_rfl) (by kernel_rfl) (by kernel_rfl) (fun _ _ _ h => h) (Or.inl ⟨by rfl, ?_⟩) HELD.out ?_
  rotate_left
  · intro w hSw
    (try dsimp only at hSw)
    obtain ⟨q0, q1⟩ := hSw
    go_simp
    try with_reducible rfl
  try simp only [Act.put, List.setIfInBounds_toArray, List.set_cons_zero, List.set_cons_succ]
  refine wpAnyH_ready (rs := [4, 6]) (by kernel_rfl) (by simp) ?_
  refine AllReadyH.cons (by simp only [List.getElem?_toArray, List.getElem?_cons_zero, List.getElem?_cons_succ]; rfl) (fun K hK => ?_) (AllReadyH.cons (by simp only [List.getElem?_toArray, List.getElem?_cons_zero, List.getElem?_cons_succ]; rfl) (fun K hK => ?_) AllReadyH.nil)
  · go_simp
    refine (E1.out _ HBc.out).mono ?_
    rintro e V1 ⟨ra, rc, rfl, hr, hb⟩
    have HR := Lib.hid (row_base hr HBc.out.size)
    have HBc := Lib.hid (ext_trans HBc.out hb)
    have HELD := Lib.hid (HELDB.out V1 HBc.out)
    clear hr hb
    refine hK.out _ _ HELD.out (fun _ => ?_)
    clear hK K
    try simp only [Act.put, List.setIfInBounds_toArray, List.set_cons_zero, List.set_cons_succ]
    refine wpAnyH_take (i := 5) (v := ?_) (by simp only [List.getElem?_toArray, List.getElem?_cons_zero, List.getElem?_cons_succ]; rfl) (by kernel_rfl) (by kernel_rfl) (by kernel_rfl) (fun _ _ _ h => h) (Or.inl ⟨by rfl, ?_⟩) HELD.out ?_
    rotate_left
    · intro w hSw
      (try dsimp only at hSw)
      obtain ⟨q0, q1⟩ := hSw
      go_simp
      try with_reducible rfl
    try simp only [Act.put, List.setIfInBounds_toArray, List.set_cons_zero, List.set_cons_succ]
    refine wpAnyH_ready (rs := [6]) (by kernel_rfl) (by simp) ?_
    refine AllReadyH.cons (by simp only [List.getElem?_toArray, List.getElem?_cons_zero, List.getElem?_cons_succ]; rfl) (fun K hK => ?_) AllReadyH.nil
    go_simp
    generalize hV : World.alloc V1 _ = V2
    have hb : Below V1.heap.size V1 V2 := by subst hV; exact ext_alloc _ _
    have HR := Lib.hid (HR.out.below hb)
    have HZ : Hid (V2.heap[V1.heap.size]? = some (.cells #[.int .i64 0, .slice none 0 0, .slice none 0 0] 30 (0, 0))) := by show _ = _; subst hV; exact heap_new _ _ _ rfl
    have HG := Lib.hid HBc.out.size
    have HBc := Lib.hid (ext_trans HBc.out hb)
    have HELD := Lib.hid (HELDB.out V2 HBc.out)
    clear hV hb
    refine hK.out _ _ HELD.out (fun _ => ?_)
    clear hK K
    try simp only [Act.put, List.setIfInBounds_toArray, List.set_cons_zero, List.set_cons_succ]
    refine wpAnyH_ready (rs := [7]) (by kernel_rfl) (by simp) ?_
    refine AllReadyH.cons (by simp only [List.getElem?_toArray, List.getElem?_cons_zero, List.getElem?_cons_succ]; rfl) (fun K hK => ?_) AllReadyH.nil
    have hh := HZ.out
    have z0 := cell_of_block hh 0
    have z1 := cell_of_block hh 1
    have z2 := cell_of_block hh 2
    have y0 := unfrozen_of_block hh 0
    have y1 := unfrozen_of_block hh 1
    have y2 := unfrozen_of_block hh 2
    clear hh
    go_simp
    clear z0 z1 z2 y0 y1 y2
    have hZ2 := tri_set_t HZ.out rfl (.int .i64 bad) (.slice ra n1 rc) (.slice none 0 0)
    have hb6 := set3_t (u0 := .int .i64 bad) (u1 := .slice ra n1 rc) (u2 := .slice none 0 0) (V1.heap.size) HG.out HBc.out
    have hR2 : Row isByte (((World.setCell V2 ⟨V1.heap.size, 0, .none⟩ (.int .i64 bad)).setCell ⟨V1.heap.size, 1, .none⟩ (.slice ra n1 rc)).setCell ⟨V1.heap.size, 2, .none⟩ (.slice none 0 0)) X0.heap.size 5 (.slice ra n1 rc) n1 XS := HR.out.other fun q hq => set3_other (V1.heap.size) q (fun e => (HR.out.not_own HZ.out (by decide)) (by rw [hq, e])) _ _ _
    have HELD := Lib.hid (HELDB.out _ hb6)
    generalize hV6 : World.setCell (World.setCell (World.setCell V2 _ _) _ _) _ _ = V3 at HELD hb6 hZ2 hR2 ⊢
    clear hV6
    have HBc := Lib.hid hb6
    have HZ := Lib.hid hZ2
    have HR := Lib.hid hR2
    clear hb6 hZ2 hR2
    refine hK.out _ _ HELD.out (fun _ => ?_)
    clear hK K
    try simp only [Act.put, List.setIfInBounds_toArray, List.set_cons_zero, List.set_cons_succ]
    refine wpAnyH_done (by kernel_rfl) ?_ _
    refine NoPanic.normal ?_
    exact hK _ _ _ _ _ _ _ _ _ _ HG.out HZ.out HR.out HBc.out
  · go_simp
    generalize hV : World.alloc Y0 _ = V4
    have hb : Below Y0.heap.size Y0 V4 := by subst hV; exact ext_alloc _ _
    have HZ : Hid (V4.heap[Y0.heap.size]? = some (.cells #[.int .i64 0, .slice none 0 0, .slice none 0 0] 30 (0, 0))) := by show _ = _; subst hV; exact heap_new _ _ _ rfl
    have HG := Lib.hid HBc.out.size
    have HBc := Lib.hid (ext_trans HBc.out hb)
    have HELD := Lib.hid (HELDB.out V4 HBc.out)
    clear hV hb
    refine hK.out _ _ HELD.out (fun _ => ?_)
    clear hK K
    try simp only [Act.put, List.setIfInBounds_toArray, List.set_cons_zero, List.set_cons_succ]
    refine wpAnyH_ready (rs := [4]) (by kernel_rfl) (by simp) ?_
    refine AllReadyH.cons (by simp only [List.getElem?_toArray, List.getElem?_cons_zero, List.getElem?_cons_succ]; rfl) (fun K hK => ?_) AllReadyH.nil
    go_simp
    refine (E1.out _ HBc.out).mono ?_
    rintro e V5 ⟨ra, rc, rfl, hr, hb⟩
    have HZ := Lib.hid (heap_below HZ.out hb)
    have HR := Lib.hid (row_base hr HBc.out.size)
    have HBc := Lib.hid (ext_trans HBc.out hb)
    have HELD := Lib.hid (HELDB.out V5 HBc.out)
    clear hr hb
    refine hK.out _ _ HELD.out (fun _ => ?_)
    clear hK K
    try simp only [Act.put, List.setIfInBounds_toArray, List.set_cons_zero, List.set_cons_succ]
    refine wpAnyH_take (i := 5) (v := ?_) (by simp only [List.getElem?_toArray, List.getElem?_cons_zero, List.getElem?_cons_succ]; rfl) (by kernel_rfl) (by kernel_rfl) (by kernel_rfl) (fun _ _ _ h => h) (Or.inl ⟨by rfl, ?_⟩) HELD.out ?_
    rotate_left
    · intro w hSw
      (try dsimp only at hSw)
      obtain ⟨q0, q1⟩ := hSw
      go_simp
      try with_reducible rfl
    try simp only [Act.put, List.setIfInBounds_toArray, List.set_cons_zero, List.set_cons_succ]
    refine wpAnyH_ready (rs := [7]) (by kernel_rfl) (by simp) ?_
    refine AllReadyH.cons (by simp only [List.getElem?_toArray, List.getElem?_cons_zero, List.getElem?_cons_succ]; rfl) (fun K hK => ?_) AllReadyH.nil
    have hh := HZ.out
    have z0 := cell_of_block hh 0
    have z1 := cell_of_block hh 1
    have z2 := cell_of_block hh 2
    have y0 := unfrozen_of_block hh 0
    have y1 := unfrozen_of_block hh 1
    have y2 := unfrozen_of_block hh 2
    clear hh
    go_simp
    clear z0 z1 z2 y0 y1 y2
    have hZ2 := tri_set_t HZ.out rfl (.int .i64 bad) (.slice ra n1 rc) (.slice none 0 0)
    have hb6 := set3_t (u0 := .int .i64 bad) (u1 := .slice ra n1 rc) (u2 := .slice none 0 0) (Y0.heap.size) HG.out HBc.out
    have hR2 : Row isByte (((World.setCell V5 ⟨Y0.heap.size, 0, .none⟩ (.int .i64 bad)).setCell ⟨Y0.heap.size, 1, .none⟩ (.slice ra n1 rc)).setCell ⟨Y0.heap.size, 2, .none⟩ (.slice none 0 0)) X0.heap.size 5 (.slice ra n1 rc) n1 XS := HR.out.other fun q hq => set3_other (Y0.heap.size) q (fun e => (HR.out.not_own HZ.out (by decide)) (by rw [hq, e])) _ _ _
    have HELD := Lib.hid (HELDB.out _ hb6)
    generalize hV6 : World.setCell (World.setCell (World.setCell V5 _ _) _ _) _ _ = V6 at HELD hb6 hZ2 hR2 ⊢
    clear hV6
    have HBc := Lib.hid hb6
    have HZ := Lib.hid hZ2
    have HR := Lib.hid hR2
    clear hb6 hZ2 hR2
    refine hK.out _ _ HELD.out (fun _ => ?_)
    clear hK K
    try simp only [Act.put, List.setIfInBounds_toArray, List.set_cons_zero, List.set_cons_succ]
    refine wpAnyH_done (by kernel_rfl) ?_ _
    refine NoPanic.normal ?_
    exact hK _ _ _ _ _ _ _ _ _ _ HG.out HZ.out HR.out HBc.out
end Go.Proofs.Ytdheldhecimfnaa
/- The reference's zeroed, by its contract. -/
namespace Go.Proofs.Ytdheldhecimfnaa
open Go Go.RowKit Go.Joins

theorem zeroL_snoc (l : List UInt8) (k : Nat) (h : k < l.length) : zeroL (l.take (k + 1)) = zeroL (l.take k) ++ [zeroU (l.getD k 0)] := by
  rw [List.take_add_one, List.getElem?_eq_getElem h]
  simp only [Option.toList_some, zeroL, List.map_append, List.map_cons, List.map_nil]
  simp [List.getD, List.getElem?_eq_getElem h]

set_option maxRecDepth 100000 in
set_option maxHeartbeats 1600000 in
theorem zeroed_any (l : List UInt8) (a : Option Addr) (n c : Nat) (hn : n ≤ 1048576) (w : World) (h : Sees w a n c (l.map bv)) :
    Calls Try.prog 65 #[.slice a n c] w fun e w' => ∃ ra rc, e = .returned (.slice ra n rc) ∧ Row isByte w' w.heap.size 5 (.slice ra n rc) n ((zeroL l).map bv) ∧ Below w.heap.size w w' := by
  obtain ⟨i0, hi, hz0, hz1, hz2⟩ := info_parts info_byte
  have HS := Lib.hid h
  have HL : Hid (l.length = n) := h.lenMap
  have HN := Lib.hid hn
  clear h hn
  go_enter Try.func65, Try.ntmps65
  go_wp2
  go_loopw [4, 3] (fun i v wr => ∃ (k : Nat) (ra : Option Addr) (rc : Nat), k ≤ n ∧ i = .int .i64 k ∧ v = .slice ra k rc ∧ Hid (Row isByte wr w.heap.size 5 (.slice ra k rc) k ((zeroL (l.take k)).map bv)) ∧ Hid (Below w.heap.size w wr)) (fun i _ _ => n - (intOf i).toNat)
  case atStart => exact ⟨0, none, 0, Nat.zero_le _, rfl, rfl, Row.nil _ _ _ _, Below.refl _ _⟩
  case round =>
    obtain ⟨k, ra, rc, hk, rfl, rfl, hR, hB⟩ := hrel
    by_cases hlt : k < n
    · obtain ⟨b, off, rfl, hbw⟩ := HS.out.addr (by omega)
      have hcx := (HS.out.below hB.out).byte k hlt
      have hsn := zeroL_snoc l k (by rw [HL.out]; exact hlt)
      obtain ⟨u, hu⟩ : ∃ u, u = l.getD k 0 := ⟨_, rfl⟩
      rw [← hu] at hcx hsn
      obtain ⟨x, hx⟩ : ∃ x, x = u.toNat := ⟨_, rfl⟩
      rw [← hx] at hcx
      obtain ⟨d, hd⟩ : ∃ d, d = (zeroU u).toNat := ⟨_, rfl⟩
      have HD : Hid (d = if x = 2 then 0 else x) := by show _ = _; rw [hd]; unfold zeroU; rw [← hx]; split <;> simp [*]
      have HDV : Hid (Value.int .u8 (d : Int) = bv (zeroU u)) := by show _ = _; rw [hd]; rfl
      have HSN := Lib.hid hsn
      have H1C : Hid (∀ v ∈ [Value.int .u8 ((d : Nat) : Int)], v.oneCell' = true) := by rw [HDV.out]; exact bv_one [zeroU u]
      have HOC : Hid (∀ v ∈ [Value.int .u8 ((d : Nat) : Int)], isByte v) := by rw [HDV.out]; exact isByte_all [zeroU u]
      have hI : ((k : Nat) : Int) < (n : Int) := by omega
      have W1 : IntKind.i64.wrap ((k : Int) + 1) = (k : Int) + 1 := IntWalk.i64_in _ (by have := HN.out; omega)
      clear hu hx hd hsn hbw
      by_cases hq : x = 2
      · subst hq
        have hd0 : d = 0 := HD.out.trans (if_pos rfl)
        subst hd0
        go_wp2_with (at_builtin; refine wpList_append_row isByte _ rfl _ _ 27 rfl w.heap.size 5 i0 (.int .u8 0) 1 Try.underlying27 hi hz0 hz1 hz2 rfl isByte_zero _ _ _ rfl (hR.out.below (ext_alloc _ _)) _ 1 1 [.int .u8 ((0 : Nat) : Int)] rfl ?qd1 H1C.out HOC.out ?qd4 ?qd5 ?qd6 ?_)
        case qd1 => exact sees_box1 _ _ _
        case qd4 => unfold maxLen; have := HN.out; omega
        case qd5 => have := HN.out; omega
        case qd6 => have := hB.out.size; simp; omega
        intro v' w' r' g' _
        have hbz := ext_alloc wr (.cells #[.int .u8 ((0 : Nat) : Int)] 5)
        have hnz := hR.out.below hbz
        have HBZ := Lib.hid ((ext_trans hB.out hbz).grown g' (ext_trans hB.out hbz).size (fun k hk => (hnz.own.lt k hk).1))
        obtain ⟨a2z, c2z, rfl⟩ := r'.form
        have R2 := Lib.hid r'
        clear hbz hnz r' g' hR hB
        go_wp2
        go_roundw
        case rel => exact ⟨k + 1, _, _, by omega, by go_num, rfl, (by rw [HSN.out, List.map_append, show List.map bv [zeroU u] = [Value.int .u8 ((0 : Nat) : Int)] from by rw [HDV.out]; rfl]; exact R2.out), HBZ.out⟩
        case measure => simp [intOf]; omega
      · have hdx : d = x := HD.out.trans (if_neg hq)
        subst hdx
        have e1 : ((d : Int) == 2) = false := by simp; omega
        have HQ := Lib.hid hq
        clear hq
        go_wp2_with (at_builtin; refine wpList_append_row isByte _ rfl _ _ 27 rfl w.heap.size 5 i0 (.int .u8 0) 1 Try.underlying27 hi hz0 hz1 hz2 rfl isByte_zero _ _ _ rfl (hR.out.below (ext_alloc _ _)) _ 1 1 [.int .u8 ((d : Nat) : Int)] rfl ?pd1 H1C.out HOC.out ?pd4 ?pd5 ?pd6 ?_)
        case pd1 => exact sees_box1 _ _ _
        case pd4 => unfold maxLen; have := HN.out; omega
        case pd5 => have := HN.out; omega
        case pd6 => have := hB.out.size; simp; omega
        intro v' w' r' g' _
        have hbz := ext_alloc wr (.cells #[.int .u8 ((d : Nat) : Int)] 5)
        have hnz := hR.out.below hbz
        have HBZ := Lib.hid ((ext_trans hB.out hbz).grown g' (ext_trans hB.out hbz).size (fun k hk => (hnz.own.lt k hk).1))
        obtain ⟨a2z, c2z, rfl⟩ := r'.form
        have R2 := Lib.hid r'
        clear hbz hnz r' g' hR hB
        go_wp2
        go_roundw
        case rel => exact ⟨k + 1, _, _, by omega, by go_num, rfl, (by rw [HSN.out, List.map_append, show List.map bv [zeroU u] = [Value.int .u8 ((d : Nat) : Int)] from by rw [HDV.out]; rfl]; exact R2.out), HBZ.out⟩
        case measure => simp [intOf]; omega
    · obtain rfl : k = n := by omega
      have HR : Hid (Row isByte wr w.heap.size 5 (.slice ra k rc) k ((zeroL l).map bv)) := by have h := hR.out; rw [List.take_of_length_le (by rw [HL.out]; exact Nat.le_refl _)] at h; exact h
      clear hR
      go_wp2
      go_ret
      exact ⟨_, _, rfl, HR.out, hB.out⟩
end Go.Proofs.Ytdheldhecimfnaa
/- The reference's Read, by its contract. -/
namespace Go.Proofs.Ytdheldhecimfnaa
open Go Go.RowKit Go.Joins

/-- While the trace is read: k frames have been read. -/
structure RzInv (w : World) (G : Nat) (bad : Int) (F : List (List UInt8)) (I : List UInt8) (a1 : Option Addr) (n1 c1 : Nat) (a2 : Option Addr) (n2 c2 k : Nat) (W : World) (v : Value) (si : Slc) (ss : List Slc) : Prop where
  box : W.heap[G]? = some (.cells #[.int .i64 bad, slV si, v] 30 (0, 0))
  tb : W.heap[w.heap.size]? = some (.cells #[.int .i64 bad, .slice a1 n1 c1, .slice a2 n2 c2] 30 (0, 0))
  rb : W.heap[w.heap.size + 1]? = some (.cells #[.int .i64 0, .slice none 0 0, .slice none 0 0] 30 (0, 0))
  init : Row isByte W w.heap.size 5 (slV si) I.length ((zeroL I).map bv)
  row : W.ownsRow w.heap.size 27 1 v k (ss.map slV)
  len : ss.length = k
  rows : ∀ j, j < k → Row isByte W w.heap.size 5 (slV (ss.getD j slc0)) (F.getD j []).length ((zeroL (F.getD j [])).map bv)
  low : Below w.heap.size w W

set_option maxRecDepth 100000 in
set_option maxHeartbeats 6400000 in
theorem refread2_any (t : TraceC) (s : TSlots) (w : World) (h : SeesTr w s t) (hs : s.small) :
    Calls Try.prog 43 #[traceV t.bad s] w fun e w' => ∃ s' : TSlots, e = .returned (traceV t.bad s') ∧ OwnTA w' w.heap.size s' (readT t) ∧ s'.small ∧ Below w.heap.size w w' := by
  obtain ⟨iS, hiS, hzS0, hzS1, hzS2⟩ := info_parts info_u8s
  obtain ⟨a1, n1, c1, a2, n2, c2, ss0⟩ := s
  obtain ⟨hs1, hs2, hs3⟩ := hs
  simp only at hs1 hs2 hs3
  obtain ⟨bad, init, fs⟩ := t
  obtain ⟨q1, q2⟩ := h
  simp only at q1 q2
  have hn2 := q2.n_eq
  have hn1 : init.length = n1 := q1.lenMap
  have H1 := Lib.hid q1
  have H2 := Lib.hid q2
  have HN1 := Lib.hid hn1
  have HN2 := Lib.hid hn2
  have HSL := Lib.hid hs3
  have HS1 := Lib.hid hs1
  clear q1 q2 hn1 hn2 hs3 hs1
  unfold traceV
  go_enter Try.func43, Try.ntmps43
  go_upto_region 1 with fail
  generalize hW : World.alloc (World.alloc w _) _ = W1
  have B1 : Below w.heap.size w W1 := by subst hW; exact ext_trans (ext_alloc _ _) (ext_alloc _ _)
  have hT : W1.heap[w.heap.size]? = some (.cells #[.int .i64 bad, .slice a1 n1 c1, .slice a2 n2 c2] 30 (0, 0)) := by subst hW; exact heap_below (heap_new _ _ _ rfl) (ext_alloc _ _)
  have hR : W1.heap[w.heap.size + 1]? = some (.cells #[.int .i64 0, .slice none 0 0, .slice none 0 0] 30 (0, 0)) := by subst hW; exact heap_new _ _ _ (by simp)
  have hsz : w.heap.size + 1 < W1.heap.size := by subst hW; simp
  have HB := Lib.hid B1
  have HT := Lib.hid hT
  have HR := Lib.hid hR
  have HSZ := Lib.hid hsz
  have E1 := Lib.hid (fun W (hb : Below W1.heap.size W1 W) => zeroed_any init a1 n1 c1 HS1.out W (H1.out.below (ext_trans B1 hb)))
  have HELDB : Hid (∀ W, Below W1.heap.size W1 W → (W.cell? ⟨w.heap.size, 0, none⟩ = some (.int .i64 bad) ∧ W.cell? ⟨w.heap.size, 1, none⟩ = some (.slice a1 n1 c1))) := fun W hb => ⟨cell_of_block (heap_below HT.out hb) 0, cell_of_block (heap_below HT.out hb) 1⟩
  clear hW B1 hT hR hsz
  refine reg_SRReadR w.heap.size bad a1 n1 c1 ((zeroL init).map bv) W1 HELDB E1 _ ?_
  intro G ia ic W2 _ _ _ _ _ _ hG hZ hr hb
  obtain ⟨si, hsi⟩ : ∃ si : Slc, si = (ia, n1, ic) := ⟨_, rfl⟩
  have hro : Row isByte W2 w.heap.size 5 (slV si) init.length ((zeroL init).map bv) := by rw [hsi, HN1.out]; exact row_base hr HB.out.size
  have hzz : W2.heap[G]? = some (.cells #[.int .i64 bad, slV si, .slice none 0 0] 30 (0, 0)) := by rw [hsi]; exact hZ
  have hlen2 : (si.2.1 : Nat) = init.length := by rw [hsi, HN1.out]
  have HLEN2 := Lib.hid hlen2
  have HRO := Lib.hid hro
  have HX2 := Lib.hid hzz
  have HT2 := Lib.hid (heap_below HT.out hb)
  have HR2 := Lib.hid (heap_below HR.out hb)
  have HB2 := Lib.hid (ext_trans HB.out hb)
  have HGN : Hid (G ≠ w.heap.size ∧ G ≠ w.heap.size + 1 ∧ w.heap.size ≤ G) := by have := HSZ.out; exact ⟨by omega, by omega, by omega⟩
  clear hlen2 hro hzz hsi hG hZ hr hb HT HR HB HSZ E1 HELDB
  go_wp2
  go_loopw [4] (fun i wr => ∃ (k : Nat) (va : Option Addr) (vc : Nat) (ss : List Slc), k ≤ n2 ∧ i = .int .i64 k ∧ Hid (RzInv w G bad fs init a1 n1 c1 a2 n2 c2 k wr (.slice va k vc) si ss)) (fun i _ => n2 - (intOf i).toNat)
  case atStart => exact ⟨0, none, 0, [], Nat.zero_le _, rfl, HX2.out, HT2.out, HR2.out, HRO.out, ⟨rfl, .inl ⟨rfl, rfl⟩⟩, rfl, fun j hj => absurd hj (by omega), HB2.out⟩
  case round =>
    clear HX2 HT2 HR2 HRO HB2
    obtain ⟨k, va, vc, ss, hk, rfl, hI⟩ := hrel
    have p1 := cell_of_block hI.out.tb 2
    by_cases hlt : k < n2
    · obtain ⟨bb, off, rfl, hbw⟩ := H2.out.row.addr (show 0 < n2 by omega)
      have hcx := (H2.out.below hI.out.low).cellAt k hlt
      have hsee := (H2.out.below hI.out.low).each k (by rw [HN2.out]; exact hlt)
      have hsl := HSL.out (ss0.getD k slc0) (getD_mem (by rw [H2.out.len, HN2.out]; exact hlt))
      obtain ⟨x, hx⟩ : ∃ x : Slc, x = ss0.getD k slc0 := ⟨_, rfl⟩
      rw [← hx] at hcx hsee hsl
      obtain ⟨xa, xn, xc⟩ := x
      simp only at hcx hsee hsl
      have HKN : Hid (k < n2 ∧ n2 ≤ 1048576) := ⟨hlt, hs2⟩
      have HZ := Lib.hid (fun W (hb : Below wr.heap.size wr W) => zeroed_any (fs.getD k []) xa xn xc hsl W (hsee.below hb))
      have HBW := Lib.hid hbw
      have hI1 : ((k : Nat) : Int) < (n2 : Int) := by omega
      have hI2 : (0 : Int) ≤ (k : Int) := by omega
      have W1' : IntKind.i64.wrap ((k : Int) + 1) = (k : Int) + 1 := IntWalk.i64_in _ (by omega)
      have p0 : wr.cell? ⟨G, 2, none⟩ = some (.slice va k vc) := cell_of_block hI.out.box 2
      have p2 := hcx
      have hxl : xn = (fs.getD k []).length := hsee.lenMap.symm
      have HXL := Lib.hid hxl
      clear hx hcx hsee hsl hbw hxl
      go_upto_region 5 with fail
      have HS0 := Lib.hid (And.intro p0 (And.intro p1 p2))
      have HSD := Lib.hid (keep3c HS0.out ((Below.refl _ wr).drew))
      have HYD := Lib.hid ((Below.refl wr.heap.size wr).drew)
      refine wp_region_noPanic ?_
      refine wp_region_peelN 11 (by kernel_rfl) rfl (by simp only [List.getElem?_toArray, List.getElem?_cons_zero, List.getElem?_cons_succ]; rfl) (by kernel_rfl) ?_
      simp only [List.pop_toArray, List.dropLast_cons_cons, List.dropLast_singleton]
      refine wpAny_of_held (S := fun w' => w'.cell? ⟨G, 2, none⟩ = some (.slice va k vc) ∧ w'.cell? ⟨w.heap.size, 2, none⟩ = some (.slice (some ⟨bb, off, none⟩) n2 c2) ∧ w'.cell? ⟨bb, off + k, none⟩ = some (.slice xa xn xc)) _ _ _ _ ?_
      refine wpAnyH_take (i := 0) (v := ?_) (by simp only [List.getElem?_toArray, List.getElem?_cons_zero]; rfl) (by kernel_rfl) (by kernel_rfl) (by kernel_rfl) (fun _ _ _ h => h) (Or.inl ⟨by rfl, ?_⟩) HSD.out ?_
      rotate_left
      · intro w hSw
        (try dsimp only at hSw)
        obtain ⟨q0_, q1_, q2_⟩ := hSw
        go_simp
        try with_reducible rfl
      try simp only [Act.put, List.setIfInBounds_toArray, List.set_cons_zero, List.set_cons_succ]
      refine wpAnyH_take (i := 1) (v := ?_) (by simp only [List.getElem?_toArray, List.getElem?_cons_zero, List.getElem?_cons_succ]; rfl) (by kernel_rfl) (by kernel_rfl) (by kernel_rfl) (fun _ _ _ h => h) (Or.inl ⟨by rfl, ?_⟩) HSD.out ?_
      rotate_left
      · intro w hSw
        (try dsimp only at hSw)
        obtain ⟨q0_, q1_, q2_⟩ := hSw
        go_simp
        try with_reducible rfl
      try simp only [Act.put, List.setIfInBounds_toArray, List.set_cons_zero, List.set_cons_succ]
      refine wpAnyH_take (i := 2) (v := ?_) (by simp only [List.getElem?_toArray, List.getElem?_cons_zero, List.getElem?_cons_succ]; rfl) (by kernel_rfl) (by kernel_rfl) (by kernel_rfl) (fun _ _ _ h => h) (Or.inl ⟨by rfl, ?_⟩) HSD.out ?_
      rotate_left
      · intro w hSw
        (try dsimp only at hSw)
        obtain ⟨q0_, q1_, q2_⟩ := hSw
        go_simp
        try with_reducible rfl
      try simp only [Act.put, List.setIfInBounds_toArray, List.set_cons_zero, List.set_cons_succ]
      refine wpAnyH_take (i := 3) (v := ?_) (by simp only [List.getElem?_toArray, List.getElem?_cons_zero, List.getElem?_cons_succ]; rfl) (by kernel_rfl) (by kernel_rfl) (by kernel_rfl) (fun _ _ _ h => h) (Or.inl ⟨by rfl, ?_⟩) HSD.out ?_
      rotate_left
      · intro w hSw
        (try dsimp only at hSw)
        obtain ⟨q0_, q1_, q2_⟩ := hSw
        go_simp
        try with_reducible rfl
      try simp only [Act.put, List.setIfInBounds_toArray, List.set_cons_zero, List.set_cons_succ]
      refine wpAnyH_take (i := 4) (v := ?_) (by simp only [List.getElem?_toArray, List.getElem?_cons_zero, List.getElem?_cons_succ]; rfl) (by kernel_rfl) (by kernel_rfl) (by kernel_rfl) (fun _ _ _ h => h) (Or.inl ⟨by rfl, ?_⟩) HSD.out ?_
      rotate_left
      · intro w hSw
        (try dsimp only at hSw)
        obtain ⟨q0_, q1_, q2_⟩ := hSw
        go_simp
        try with_reducible rfl
      try simp only [Act.put, List.setIfInBounds_toArray, List.set_cons_zero, List.set_cons_succ]
      refine wpAnyH_take (i := 5) (v := ?_) (by simp only [List.getElem?_toArray, List.getElem?_cons_zero, List.getElem?_cons_succ]; rfl) (by kernel_rfl) (by kernel_rfl) (by kernel_rfl) (fun _ _ _ h => h) (Or.inl ⟨by rfl, ?_⟩) HSD.out ?_
      rotate_left
      · intro w hSw
        (try dsimp only at hSw)
        obtain ⟨q0_, q1_, q2_⟩ := hSw
        go_simp
        try with_reducible rfl
      try simp only [Act.put, List.setIfInBounds_toArray, List.set_cons_zero, List.set_cons_succ]
      refine wpAnyH_take (i := 6) (v := ?_) (by simp only [List.getElem?_toArray, List.getElem?_cons_zero, List.getElem?_cons_succ]; rfl) (by kernel_rfl) (by kernel_rfl) (by kernel_rfl) (fun _ _ _ h => h) (Or.inl ⟨by rfl, ?_⟩) HSD.out ?_
      rotate_left
      · intro w hSw
        (try dsimp only at hSw)
        obtain ⟨q0_, q1_, q2_⟩ := hSw
        go_simp
        try with_reducible rfl
      try simp only [Act.put, List.setIfInBounds_toArray, List.set_cons_zero, List.set_cons_succ]
      refine wpAnyH_ready (rs := [7]) (by kernel_rfl) (by simp) ?_
      refine AllReadyH.cons (by simp only [List.getElem?_toArray, List.getElem?_cons_zero, List.getElem?_cons_succ]; rfl) (fun K hK => ?_) AllReadyH.nil
      go_simp
      refine (HZ.out _ HYD.out).mono ?_
      rintro e w3 ⟨ea, ec, rfl, r3, b3⟩
      have HB3 := Lib.hid (ext_trans HYD.out b3)
      have R3 := Lib.hid (row_base r3 HYD.out.size)
      have HS3 := Lib.hid (keep3c HSD.out b3)
      clear r3 b3
      refine hK.out _ _ HS3.out (fun _ => ?_)
      clear hK K
      try simp only [Act.put, List.setIfInBounds_toArray, List.set_cons_zero, List.set_cons_succ]
      refine wpAnyH_ready (rs := [8]) (by kernel_rfl) (by simp) ?_
      refine AllReadyH.cons (by simp only [List.getElem?_toArray, List.getElem?_cons_zero, List.getElem?_cons_succ]; rfl) (fun K hK => ?_) AllReadyH.nil
      go_simp
      have HS4 := Lib.hid (keep3c HS3.out (ext_alloc w3 (.cells #[.slice ea xn ec] 27)))
      refine hK.out _ _ HS4.out (fun _ => ?_)
      clear hK K
      try simp only [Act.put, List.setIfInBounds_toArray, List.set_cons_zero, List.set_cons_succ]
      have HB4 := Lib.hid (ext_trans HB3.out (ext_alloc w3 (.cells #[.slice ea xn ec] 27)))
      have HOW := Lib.hid (ownsN_below hI.out.row HB4.out)
      refine wpAnyH_ready (rs := [9]) (by kernel_rfl) (by simp) ?_
      refine AllReadyH.cons (by simp only [List.getElem?_toArray, List.getElem?_cons_zero, List.getElem?_cons_succ]; rfl) (fun K hK => ?_) AllReadyH.nil
      refine step_append_own_at rfl _ _ 28 rfl w.heap.size 27 iS (.slice none 0 0) 1 24 Try.underlying28 hiS hzS0 hzS1 hzS2 rfl (by decide) (.slice va k vc) k (ss.map slV) (by simp [Act.eval]) HOW.out ⟨w3.heap.size, 0, none⟩ 1 1 [.slice ea xn ec] (by simp [Act.eval]) rfl (cell_one_new _ _ _) (by simp [Value.oneCell']) (by unfold maxLen; have := HKN.out; omega) (by have := HKN.out; omega) (ext_trans hI.out.low HB4.out).size ?_
      intro v5 w5 r5 g5
      obtain ⟨fa, fc, rfl⟩ := ownsN_form r5
      have hx5 := heap_grown (heap_below hI.out.box HB4.out) g5 (ownsN_notown HOW.out (heap_below hI.out.box HB4.out) (by decide))
      have ht5 := heap_grown (heap_below hI.out.tb HB4.out) g5 (ownsN_notown HOW.out (heap_below hI.out.tb HB4.out) (by decide))
      have HS5 : Hid (w5.cell? ⟨G, 2, none⟩ = some (.slice va k vc) ∧ w5.cell? ⟨w.heap.size, 2, none⟩ = some (.slice (some ⟨bb, off, none⟩) n2 c2) ∧ w5.cell? ⟨bb, off + k, none⟩ = some (.slice xa xn xc)) := ⟨cell_of_block hx5 2, cell_of_block ht5 2, by rw [World.cell?_of_block (w := w3.alloc (.cells #[.slice ea xn ec] 27)) (g5.block bb (Nat.lt_of_lt_of_le HBW.out (Nat.le_trans hI.out.low.size HB4.out.size)) (fun e => by have := (HOW.out.lt bb e.symm).1; have := HBW.out; omega))]; exact HS4.out.2.2⟩
      have HX5 := Lib.hid hx5
      have HT5 := Lib.hid ht5
      have d1 := cell_of_block hx5 2
      have d2 := unfrozen_of_block hx5 2
      have HG5 := Lib.hid g5
      have R5 := Lib.hid r5
      clear r5 g5 hx5 ht5
      refine hK.out _ _ HS5.out (fun _ => ?_)
      clear hK K
      try simp only [Act.put, List.setIfInBounds_toArray, List.set_cons_zero, List.set_cons_succ]
      refine wpAnyH_take (i := 10) (v := ?_) (by simp only [List.getElem?_toArray, List.getElem?_cons_zero, List.getElem?_cons_succ]; rfl) (by kernel_rfl) (by kernel_rfl) (by kernel_rfl) (fun _ _ _ h => h) (Or.inl ⟨by rfl, ?_⟩) HS5.out ?_
      rotate_left
      · intro w hSw
        (try dsimp only at hSw)
        obtain ⟨q0_, q1_, q2_⟩ := hSw
        go_simp
        try with_reducible rfl
      try simp only [Act.put, List.setIfInBounds_toArray, List.set_cons_zero, List.set_cons_succ]
      refine wpAnyH_done (by kernel_rfl) ?_ _
      unfold LastQ wpOp
      simp only [List.getElem?_toArray, List.getElem?_cons_zero, List.getElem?_cons_succ]
      rw [if_pos (by rfl)]
      refine Or.inl ?_
      go_simp
      refine NoPanic.normal ?_
      clear p0 p1 p2 HS0 HSD HS3 HS4 HS5 d1 d2 HZ
      go_wp2
      go_roundw
      case rel =>
        refine ⟨k + 1, fa, fc, ss ++ [(ea, xn, ec)], by omega, by go_num, ?_⟩
        have hXX := block_setCell HX5.out (i := 2) (.slice fa (k + 1) fc)
        obtain ⟨W6, hW6⟩ : ∃ W6, W6 = w5.setCell ⟨G, 2, none⟩ (.slice fa (k + 1) fc) := ⟨_, rfl⟩
        rw [← hW6] at hXX ⊢
        have hne : ∀ D : Nat, D ≠ G → W6.heap[D]? = w5.heap[D]? := fun D hD => by rw [hW6]; exact Below.heap_setCell w5 ⟨G, 2, none⟩ _ D hD
        obtain ⟨WA, hWA⟩ : ∃ WA, WA = w3.alloc (.cells #[.slice ea xn ec] 27) := ⟨_, rfl⟩
        have hg := HG5.out
        have hb4 := HB4.out
        have how := HOW.out
        rw [← hWA] at hg hb4 how
        have hb3A : Below w3.heap.size w3 WA := by rw [hWA]; exact ext_alloc _ _
        have hwle : w.heap.size ≤ wr.heap.size := hI.out.low.size
        have one : ∀ {y : Slc} {n : Nat} {V : List UInt8}, Row isByte WA w.heap.size 5 (slV y) n (V.map bv) → Row isByte W6 w.heap.size 5 (slV y) n (V.map bv) := fun {y n V} hy => by
          have h1 := row_grown hy how hg (by decide)
          exact h1.other fun q hq => hne q (fun e => (h1.not_own HX5.out (by decide)) (by rw [hq, e]))
        have hnew : Row isByte WA w.heap.size 5 (slV (ea, xn, ec)) (fs.getD k []).length ((zeroL (fs.getD k [])).map bv) := by
          have h1 := (R3.out.below hb3A).base_le hwle
          rw [← HXL.out]
          exact h1
        have hbz : Below w.heap.size w WA := ext_trans hI.out.low hb4
        refine ⟨?_, (hne _ HGN.out.1.symm).trans HT5.out, (hne _ HGN.out.2.1.symm).trans (heap_grown (heap_below hI.out.rb hb4) hg (ownsN_notown how (heap_below hI.out.rb hb4) (by decide))), one (hI.out.init.below hb4), ?_, by simp [hI.out.len], fun j hj => ?_, ?_⟩
        · simpa using hXX
        · have h1 : w5.ownsRow w.heap.size 27 1 (.slice fa (k + 1) fc) (k + 1) ((ss ++ [(ea, xn, ec)]).map slV) := by simpa [slV] using R5.out
          exact ownsN_other h1 fun q hq => hne q (fun e => (ownsN_notown h1 HX5.out (by decide)) (by rw [hq, e]))
        · by_cases e : j = k
          · subst e
            have e1 : (ss ++ [(ea, xn, ec)]).getD j slc0 = (ea, xn, ec) := by rw [← hI.out.len]; simp
            rw [e1]
            exact one hnew
          · have e1 : (ss ++ [(ea, xn, ec)]).getD j slc0 = ss.getD j slc0 := by simp [List.getD, List.getElem?_append_left (show j < ss.length by rw [hI.out.len]; omega)]
            rw [e1]
            exact one ((hI.out.rows j (by omega)).below hb4)
        · rw [hW6]
          exact (hbz.grown hg hbz.size (fun q hq => (how.lt q hq).1)).setCell (p := ⟨G, 2, none⟩) HGN.out.2.2 _
      case measure => simp [intOf]; omega
    · obtain rfl : k = n2 := by omega
      have z0 := cell_of_block hI.out.box 0
      have z1 := cell_of_block hI.out.box 1
      have z2 := cell_of_block hI.out.box 2
      obtain ⟨sa, sn, sc⟩ := si
      simp only [slV] at z1
      have z1' : wr.cell? ⟨G, 1, none⟩ = some (.slice sa sn sc) := z1
      have y0 := cell_of_block hI.out.rb 0
      have y1 := cell_of_block hI.out.rb 1
      have y2 := cell_of_block hI.out.rb 2
      have x0 := unfrozen_of_block hI.out.rb 0
      have x1 := unfrozen_of_block hI.out.rb 1
      have x2 := unfrozen_of_block hI.out.rb 2
      clear hlt hk z1
      go_wp2
      refine bodyPost_ret (v := traceV bad ⟨sa, sn, sc, va, k, vc, ss⟩) ?_ rfl ?_
      · have h6 := tri_set_t hI.out.rb rfl (.int .i64 bad) (.slice sa sn sc) (.slice va k vc)
        have g0 := cell_of_block h6 0
        have g1 := cell_of_block h6 1
        have g2 := cell_of_block h6 2
        simp [results, Try.results43, go_sem, g0, g1, g2]
        rfl
      · have hsn : sn = init.length := HLEN2.out
        have h1 := HN1.out
        have h2 := HN2.out
        have oth : ∀ {n : Nat} {v : Value} {xs : List Value}, Row isByte wr w.heap.size 5 v n xs → Row isByte (((wr.setCell ⟨w.heap.size + 1, 0, .none⟩ (.int .i64 bad)).setCell ⟨w.heap.size + 1, 1, .none⟩ (.slice sa sn sc)).setCell ⟨w.heap.size + 1, 2, .none⟩ (.slice va k vc)) w.heap.size 5 v n xs := fun hr => hr.other fun q hq => set3_other (w.heap.size + 1) q (fun e => (hr.not_own hI.out.rb (by decide)) (by rw [hq, e])) _ _ _
        have ho2 := ownsN_other hI.out.row fun q hq => set3_other (w.heap.size + 1) q (fun e => (ownsN_notown hI.out.row hI.out.rb (by decide)) (by rw [hq, e])) (.int .i64 bad) (.slice sa sn sc) (.slice va k vc)
        refine ⟨⟨sa, sn, sc, va, k, vc, ss⟩, rfl, ⟨?_, ⟨?_, hI.out.len, ho2, fun j hj => ?_⟩⟩, ⟨by show sn ≤ 1048576; have := HS1.out; omega, hs2, fun x hx => ?_⟩, set3_t (w.heap.size + 1) (Nat.le_succ _) hI.out.low⟩
        · have h3 := oth hI.out.init
          rw [show init.length = (zeroL init).length by simp [zeroL]] at h3
          exact h3
        · show (fs.map zeroL).length = k
          rw [List.length_map, h2]
        · have h3 := oth (hI.out.rows j hj)
          have h4 : ((readT ⟨bad, init, fs⟩).frames.getD j []) = zeroL (fs.getD j []) := readT_frame ⟨bad, init, fs⟩ j
          rw [h4]
          rw [show (fs.getD j []).length = (zeroL (fs.getD j [])).length by simp [zeroL]] at h3
          exact h3
        · obtain ⟨j, hj, he⟩ := List.getElem_of_mem hx
          have h3 : ss.getD j slc0 = x := by simp [List.getD, List.getElem?_eq_getElem hj, he]
          have hjk : j < k := by rw [← hI.out.len]; exact hj
          have h4 := hI.out.rows j hjk
          rw [h3] at h4
          have h5 := row_len (show Row isByte wr w.heap.size 5 (.slice x.1 x.2.1 x.2.2) _ _ from h4)
          have h6 := (H2.out.each j (by rw [h2]; exact hjk)).lenMap
          have h7 := HSL.out (ss0.getD j slc0) (getD_mem (by rw [H2.out.len, h2]; exact hjk))
          omega
theorem refread_any (t : TraceC) (s : TSlots) (w : World) (h : SeesTr w s t) (hs : s.small) :
    Calls Try.prog 43 #[traceV t.bad s] w fun e w' => ∃ s' : TSlots, e = .returned (traceV t.bad s') ∧ SeesTr w' s' (readT t) ∧ s'.small ∧ Below w.heap.size w w' :=
  (refread2_any t s w h hs).mono fun _ _ ⟨s', h1, h2, h3, h4⟩ => ⟨s', h1, h2.sees, h3, h4⟩
end Go.Proofs.Ytdheldhecimfnaa
/- What a run answers: rows of one length that a slice of slices reads as. -/
namespace Go.Proofs.Ytdheldhecimfnaa
open Go Go.RowKit Go.Joins
theorem keep9 {w w' : World} {a0 a1 a2 a3 a4 a5 a6 a7 a8 : Addr} {v0 v1 v2 v3 v4 v5 v6 v7 v8 : Value} (h : w.cell? a0 = some v0 ∧ w.cell? a1 = some v1 ∧ w.cell? a2 = some v2 ∧ w.cell? a3 = some v3 ∧ w.cell? a4 = some v4 ∧ w.cell? a5 = some v5 ∧ w.cell? a6 = some v6 ∧ w.cell? a7 = some v7 ∧ w.cell? a8 = some v8) (hb : Below w.heap.size w w') : w'.cell? a0 = some v0 ∧ w'.cell? a1 = some v1 ∧ w'.cell? a2 = some v2 ∧ w'.cell? a3 = some v3 ∧ w'.cell? a4 = some v4 ∧ w'.cell? a5 = some v5 ∧ w'.cell? a6 = some v6 ∧ w'.cell? a7 = some v7 ∧ w'.cell? a8 = some v8 := by
  obtain ⟨h0, h1, h2, h3, h4, h5, h6, h7, h8⟩ := h
  have one : ∀ {a : Addr} {v : Value}, w.cell? a = some v → w'.cell? a = some v := fun {a v} h => (hb.cell (World.block_lt_of_cell? _ _ h)).trans h
  exact ⟨one h0, one h1, one h2, one h3, one h4, one h5, one h6, one h7, one h8⟩
/-- Rows of one length that a slice of slices reads as. -/
structure RowsB (w : World) (b o n c : Nat) (ss : List Slc) (N : Nat) (F : Nat → List UInt8) : Prop where
  list : Sees w (some ⟨b, o, none⟩) n c (ss.map slV)
  len : ss.length = n
  rows : ∀ j, j < n → ∃ rb ro rc, ss.getD j slc0 = (some ⟨rb, ro, none⟩, N, rc) ∧ Sees w (some ⟨rb, ro, none⟩) N rc ((F j).map bv)
theorem RowsB.below {w w' : World} {b o n c : Nat} {ss : List Slc} {N : Nat} {F : Nat → List UInt8} (h : RowsB w b o n c ss N F) (hb : Below w.heap.size w w') : RowsB w' b o n c ss N F :=
  ⟨h.list.below hb, h.len, fun j hj => by
    obtain ⟨rb, ro, rc, e, hs⟩ := h.rows j hj
    exact ⟨rb, ro, rc, e, hs.below hb⟩⟩
theorem RowsB.at {w : World} {b o n c : Nat} {ss : List Slc} {N : Nat} {F : Nat → List UInt8} (h : RowsB w b o n c ss N F) (k : Nat) (hk : k < n) :
    ∃ rb ro rc, w.cell? ⟨b, o + k, none⟩ = some (.slice (some ⟨rb, ro, none⟩) N rc) ∧ (∀ m, m < N → w.cell? ⟨rb, ro + m, none⟩ = some (.int .u8 (((F k).getD m 0).toNat : Int))) := by
  obtain ⟨rb, ro, rc, e, hs⟩ := h.rows k hk
  refine ⟨rb, ro, rc, ?_, fun m hm => hs.byte m hm⟩
  rw [(h.list.cell k hk).2, List.getElem?_map, List.getElem?_eq_getElem (show k < ss.length by rw [h.len]; exact hk)]
  have : ss[k]'(by rw [h.len]; exact hk) = ss.getD k slc0 := by simp [List.getD, List.getElem?_eq_getElem (show k < ss.length by rw [h.len]; exact hk)]
  rw [this, e]; rfl
theorem runpost_yes {c : NormC} {t : TraceC} {w w' : World} {e : Ending} (hF : FitsC c t) (h : RunPost c t w e w') :
    ∃ b o cc ss, e = .returned (.tuple #[.slice (some ⟨b, o, none⟩) t.frames.length cc, .int .i64 0]) ∧ RowsB w' b o t.frames.length cc ss (1 + varsN c) (varsAt c t) ∧ Below w.heap.size w w' := by
  obtain ⟨h1, _, hb⟩ := h
  obtain ⟨v, ss, e1, hl, ho, hr⟩ := h1 (fits_iff.2 hF)
  obtain ⟨a, cc, rfl, _, hs⟩ := Sees.owned ho
  obtain ⟨b, o, rfl, _⟩ := hs.addr (by have := hF.one; omega)
  refine ⟨b, o, cc, ss, e1, ⟨hs, hl, fun j hj => ?_⟩, hb⟩
  have h2 := hr j hj
  have hlen := varsAt_len c t hF.init hF.frames j hj
  rw [hlen] at h2
  obtain ⟨x, hx⟩ : ∃ x : Slc, x = ss.getD j slc0 := ⟨_, rfl⟩
  rw [← hx] at h2 ⊢
  obtain ⟨xa, xn, xc⟩ := x
  unfold slV at h2
  simp only at h2
  obtain ⟨e2, h3⟩ := row_sees_slice h2
  subst e2
  obtain ⟨rb, ro, e3, _⟩ := h3.addr (by omega)
  subst e3
  exact ⟨rb, ro, xc, rfl, h3⟩
end Go.Proofs.Ytdheldhecimfnaa
/- A trace whose X are bits, on plain lists. -/
namespace Go.Proofs.Ytdheldhecimfnaa
open Go Go.RowKit Go.Joins

def bitU (bits : List Bool) (p : Nat) : UInt8 := if bits.getD p false = true then 1 else 0
def fillU (bits : List Bool) (p : Nat) (u : UInt8) : UInt8 := if u.toNat = 2 then bitU bits p else u
def nextU (p : Nat) (u : UInt8) : Nat := if u.toNat = 2 then p + 1 else p
def fillL (bits : List Bool) : Nat → List UInt8 → List UInt8
  | _, [] => []
  | p, u :: r => fillU bits p u :: fillL bits (nextU p u) r
def nextX : Nat → List UInt8 → Nat
  | p, [] => p
  | p, u :: r => nextX (nextU p u) r
theorem fillL_len (bits : List Bool) : ∀ (l : List UInt8) (p : Nat), (fillL bits p l).length = l.length
  | [], _ => rfl
  | u :: r, p => by rw [fillL, List.length_cons, fillL_len bits r, List.length_cons]
theorem fillL_append (bits : List Bool) : ∀ (a b : List UInt8) (p : Nat), fillL bits p (a ++ b) = fillL bits p a ++ fillL bits (nextX p a) b
  | [], _, _ => rfl
  | u :: r, b, p => by rw [List.cons_append, fillL, fillL_append bits r b, fillL, nextX]; rfl
theorem nextX_append : ∀ (a b : List UInt8) (p : Nat), nextX p (a ++ b) = nextX (nextX p a) b
  | [], _, _ => rfl
  | u :: r, b, p => by rw [List.cons_append, nextX, nextX_append r b]; rfl
theorem nextU_le (p : Nat) (u : UInt8) : nextU p u ≤ p + 1 := by unfold nextU; split <;> omega
theorem nextX_le : ∀ (l : List UInt8) (p : Nat), nextX p l ≤ p + l.length
  | [], p => Nat.le_refl _
  | u :: r, p => by rw [nextX, List.length_cons]; have := nextX_le r (nextU p u); have := nextU_le p u; omega
/-- What a list holds when m of its values have been filled. -/
def fillI (bits : List Bool) (p : Nat) (l : List UInt8) (m : Nat) : List UInt8 := fillL bits p (l.take m) ++ l.drop m
theorem fillI_len (bits : List Bool) (p : Nat) (l : List UInt8) (m : Nat) : (fillI bits p l m).length = l.length := by unfold fillI; rw [List.length_append, fillL_len, List.length_take, List.length_drop]; omega
theorem fillI_zero (bits : List Bool) (p : Nat) (l : List UInt8) : fillI bits p l 0 = l := by simp [fillI, fillL]
theorem fillI_all (bits : List Bool) (p : Nat) (l : List UInt8) : fillI bits p l l.length = fillL bits p l := by simp [fillI]
theorem fillI_at (bits : List Bool) (p : Nat) (l : List UInt8) (m : Nat) (h : m < l.length) : (fillI bits p l m).getD m 0 = l.getD m 0 := by
  have e : (fillL bits p (l.take m)).length = m := by rw [fillL_len, List.length_take]; omega
  simp [fillI, List.getD, List.getElem?_append_right (Nat.le_of_eq e), e, List.getElem?_drop]
theorem take_snoc (l : List UInt8) (m : Nat) (h : m < l.length) : l.take (m + 1) = l.take m ++ [l.getD m 0] := by
  rw [List.take_add_one, List.getElem?_eq_getElem h]; simp [List.getD, List.getElem?_eq_getElem h]
theorem nextX_step (p : Nat) (l : List UInt8) (m : Nat) (h : m < l.length) : nextX p (l.take (m + 1)) = nextU (nextX p (l.take m)) (l.getD m 0) := by
  rw [take_snoc l m h, nextX_append]; rfl
theorem fillI_step (bits : List Bool) (p : Nat) (l : List UInt8) (m : Nat) (h : m < l.length) : fillI bits p l (m + 1) = (fillI bits p l m).set m (fillU bits (nextX p (l.take m)) (l.getD m 0)) := by
  have e : (fillL bits p (l.take m)).length = m := by rw [fillL_len, List.length_take]; omega
  have hg : l.getD m 0 = l[m] := by simp [List.getD, List.getElem?_eq_getElem h]
  unfold fillI
  rw [List.set_append_right _ _ (Nat.le_of_eq e), e, Nat.sub_self, List.drop_eq_getElem_cons h, List.set_cons_zero, take_snoc l m h, fillL_append, hg]
  simp only [fillL, List.append_assoc, List.cons_append, List.nil_append]
theorem fillI_keep (bits : List Bool) (p : Nat) (l : List UInt8) (m : Nat) (h : m < l.length) (h2 : (l.getD m 0).toNat ≠ 2) : fillI bits p l (m + 1) = fillI bits p l m := by
  rw [fillI_step bits p l m h]
  unfold fillU
  rw [if_neg h2, ← fillI_at bits p l m h]
  have hl : m < (fillI bits p l m).length := by rw [fillI_len]; exact h
  simp [List.getD, List.getElem?_eq_getElem hl]
/-- The lists of a trace, the first one ahead. -/
def listsOf (t : TraceC) (j : Nat) : List UInt8 := (t.init :: t.frames).getD j []
/-- How many X lie ahead of a list. -/
def startP (G : Nat → List UInt8) : Nat → Nat
  | 0 => 0
  | k + 1 => nextX (startP G k) (G k)
theorem startP_le (G : Nat → List UInt8) (M : Nat) : ∀ k, (∀ j, j < k → (G j).length ≤ M) → startP G k ≤ k * M
  | 0, _ => by simp [startP]
  | k + 1, h => by
    have h1 := startP_le G M k (fun j hj => h j (by omega))
    have h2 := nextX_le (G k) (startP G k)
    have h3 := h k (by omega)
    rw [startP, Nat.succ_mul]; omega
def fillT (bits : List Bool) (t : TraceC) : TraceC := ⟨t.bad, fillL bits 0 t.init, (List.range t.frames.length).map fun k => fillL bits (startP (listsOf t) (k + 1)) (t.frames.getD k [])⟩
theorem KeptNB.owns {w w' : World} (h : KeptNB w w') {base sz : Nat} {e : TypeId} {v : Value} {n : Nat} {xs : List Value} (hr : w.ownsRow base e sz v n xs) (he : e ≠ 5) : w'.ownsRow base e sz v n xs :=
  ownsN_other hr fun q hq => by
    rcases hr.2 with ⟨h2, _⟩ | ⟨g', cap', cur, h2, _, hh, _⟩
    · rw [h2] at hq; cases hq
    · rw [h2] at hq
      have : g' = q := by simpa [Value.ownBlock] using hq
      subst this
      exact (h g' cur e _ hh he).trans hh.symm
end Go.Proofs.Ytdheldhecimfnaa
/- What is known stays so, whatever X are: on plain lists. -/
namespace Go.Proofs.Ytdheldhecimfnaa
open Go Go.RowKit

/-- b is a bit, and a is b unless it is X. -/
def Ref (a b : UInt8) : Prop := (a.toNat = 2 ∨ a = b) ∧ b.toNat ≤ 1
theorem u8_ofNat_toNat (n : Nat) (h : n ≤ 2) : (UInt8.ofNat n).toNat = n := by rw [UInt8.toNat_ofNat', Nat.mod_eq_of_lt (by omega)]
theorem u8_cases (b : UInt8) (h : b.toNat ≤ 1) : b = 0 ∨ b = 1 := by
  rcases (show b.toNat = 0 ∨ b.toNat = 1 by omega) with h | h
  · exact .inl (UInt8.toNat_inj.1 (h.trans rfl))
  · exact .inr (UInt8.toNat_inj.1 (h.trans rfl))
theorem ref_zero : Ref 0 0 := ⟨.inr rfl, by decide⟩
theorem Ref.not {a b : UInt8} (h : Ref a b) : Ref (k1.nt a) (k1.nt b) := by
  rcases u8_cases b h.2 with rfl | rfl
  · rcases h.1 with h1 | rfl
    · refine ⟨.inl ?_, by decide⟩
      show (UInt8.ofNat (not1 a.toNat)).toNat = 2
      rw [h1]; rfl
    · exact ⟨.inr rfl, by decide⟩
  · rcases h.1 with h1 | rfl
    · refine ⟨.inl ?_, by decide⟩
      show (UInt8.ofNat (not1 a.toNat)).toNat = 2
      rw [h1]; rfl
    · exact ⟨.inr rfl, by decide⟩
theorem Ref.and {a b x y : UInt8} (h : Ref a b) (h' : Ref x y) : Ref (k1.an a x) (k1.an b y) := by
  have key : ∀ (p q r s : Nat), (p = 2 ∨ p = q) → q ≤ 1 → (r = 2 ∨ r = s) → s ≤ 1 → (and1 p r = 2 ∨ and1 p r = and1 q s) ∧ and1 q s ≤ 1 := by
    intro p q r s h1 h2 h3 h4
    have hq : q = 0 ∨ q = 1 := by omega
    have hs : s = 0 ∨ s = 1 := by omega
    rcases h1 with rfl | rfl <;> rcases h3 with rfl | rfl <;> rcases hq with rfl | rfl <;> rcases hs with rfl | rfl <;> simp [and1]
  have k := key a.toNat b.toNat x.toNat y.toNat (h.1.imp id (fun e => by rw [e])) h.2 (h'.1.imp id (fun e => by rw [e])) h'.2
  have e1 := u8_ofNat_toNat (and1 a.toNat x.toNat) (and1_le _ _)
  have e2 := u8_ofNat_toNat (and1 b.toNat y.toNat) (and1_le _ _)
  refine ⟨k.1.imp (fun e => e1.trans e) (fun e => ?_), by show (UInt8.ofNat (and1 b.toNat y.toNat)).toNat ≤ 1; rw [e2]; exact k.2⟩
  show UInt8.ofNat (and1 a.toNat x.toNat) = UInt8.ofNat (and1 b.toNat y.toNat)
  rw [e]
def RefL (xs ys : List UInt8) : Prop := xs.length = ys.length ∧ ∀ i, Ref (xs.getD i 0) (ys.getD i 0)
theorem RefL.nil : RefL [] [] := ⟨rfl, fun i => by simpa using ref_zero⟩
theorem RefL.cons {a b : UInt8} {xs ys : List UInt8} (h : Ref a b) (hl : RefL xs ys) : RefL (a :: xs) (b :: ys) := ⟨by simp [hl.1], fun i => by
  cases i with
  | zero => simpa using h
  | succ i => simpa using hl.2 i⟩
theorem RefL.append {xs ys cs ds : List UInt8} (h : RefL xs ys) (h' : RefL cs ds) : RefL (xs ++ cs) (ys ++ ds) := by
  refine ⟨by simp [h.1, h'.1], fun i => ?_⟩
  by_cases e : i < xs.length
  · have e2 : i < ys.length := by rw [← h.1]; exact e
    have := h.2 i
    simpa [List.getD, List.getElem?_append_left e, List.getElem?_append_left e2] using this
  · have e1 : xs.length ≤ i := Nat.le_of_not_lt e
    have e2 : ys.length ≤ i := by rw [← h.1]; exact e1
    have := h'.2 (i - xs.length)
    simp only [List.getD, List.getElem?_append_right e1, List.getElem?_append_right e2] at this ⊢
    rw [← h.1]; exact this
theorem RefL.val {xs ys : List UInt8} (h : RefL xs ys) (lit : Nat) : Ref (k1.val xs lit) (k1.val ys lit) := by
  unfold Kd.val
  split
  · exact (h.2 _).not
  · exact h.2 _
theorem RefL.gates : ∀ (l : List (Nat × Nat)) {xs ys : List UInt8}, RefL xs ys → RefL (k1.gates l xs) (k1.gates l ys)
  | [], _, _, h => h
  | g :: r, xs, ys, h => by
    rw [Kd.gates, Kd.gates]
    exact RefL.gates r (h.append (RefL.cons ((h.val g.1).and (h.val g.2)) RefL.nil))
theorem RefL.vars {c : NormC} {st st' ins ins' : List UInt8} (h : RefL st st') (h' : RefL ins ins') : RefL (k1.vars c st ins) (k1.vars c st' ins') :=
  RefL.gates _ (RefL.cons ref_zero (h'.append h))
theorem RefL.map (f g : Nat × Nat → UInt8) : ∀ (l : List (Nat × Nat)), (∀ p, Ref (f p) (g p)) → RefL (l.map f) (l.map g)
  | [], _ => RefL.nil
  | p :: r, h => RefL.cons (h p) (RefL.map f g r h)
theorem RefL.next {c : NormC} {vs vs' : List UInt8} (h : RefL vs vs') : RefL (k1.next c vs) (k1.next c vs') := RefL.map _ _ _ fun p => h.val p.1
def RefF (fs gs : List (List UInt8)) : Prop := fs.length = gs.length ∧ ∀ i, RefL (fs.getD i []) (gs.getD i [])
theorem RefF.cons {x y : List UInt8} {xs ys : List (List UInt8)} (h : RefL x y) (hl : RefF xs ys) : RefF (x :: xs) (y :: ys) := ⟨by simp [hl.1], fun i => by
  cases i with
  | zero => simpa using h
  | succ i => simpa using hl.2 i⟩
theorem RefF.nil : RefF [] [] := ⟨rfl, fun i => by simpa using RefL.nil⟩
theorem RefF.tail {x y : List UInt8} {xs ys : List (List UInt8)} (h : RefF (x :: xs) (y :: ys)) : RefL x y ∧ RefF xs ys := ⟨by simpa using h.2 0, by simpa using h.1, fun i => by simpa using h.2 (i + 1)⟩
theorem RefF.run (c : NormC) : ∀ {fs gs : List (List UInt8)} {st st' : List UInt8}, RefF fs gs → RefL st st' → RefF (k1.run c st fs) (k1.run c st' gs)
  | [], [], _, _, _, _ => RefF.nil
  | [], _ :: _, _, _, h, _ => by have := h.1; simp at this
  | _ :: _, [], _, _, h, _ => by have := h.1; simp at this
  | f :: fs, g :: gs, st, st', h, hs => by
    obtain ⟨h1, h2⟩ := h.tail
    rw [Kd.run, Kd.run]
    have hv := RefL.vars (c := c) hs h1
    exact RefF.cons hv (RefF.run c h2 hv.next)
theorem ref_cons (vs vs' : List UInt8) (h : RefL vs vs') : ∀ (l : List Nat) {a a' : UInt8}, Ref a a' → Ref (k1.cons vs a l) (k1.cons vs' a' l)
  | [], _, _, ha => ha
  | x :: r, _, _, ha => ref_cons vs vs' h r (ha.and (h.val x))
theorem ref_sum (c : NormC) (bad : Nat) : ∀ {l l' : List (List UInt8)} {p p' : UInt8 × UInt8}, RefF l l' → Ref p.1 p'.1 → Ref p.2 p'.2 → Ref (k1.sum c bad p l).1 (k1.sum c bad p' l').1 ∧ Ref (k1.sum c bad p l).2 (k1.sum c bad p' l').2
  | [], [], _, _, _, h1, h2 => ⟨h1, h2⟩
  | [], _ :: _, _, _, h, _, _ => by have := h.1; simp at this
  | _ :: _, [], _, _, h, _, _ => by have := h.1; simp at this
  | v :: l, v' :: l', p, p', h, h1, h2 => by
    obtain ⟨hv, ht⟩ := h.tail
    exact ref_sum c bad (p := (k1.cons v p.1 c.cons, k1.val v (c.bads.getD bad 0))) (p' := (k1.cons v' p'.1 c.cons, k1.val v' (c.bads.getD bad 0))) ht (ref_cons v v' hv _ h1) (hv.val _)
theorem ref_verdict (c : NormC) (bad : Nat) {st st' : List UInt8} {fs gs : List (List UInt8)} (h : RefL st st') (h' : RefF fs gs) : Ref (k1.verdict c bad st fs) (k1.verdict c bad st' gs) := by
  have hz : Ref (k1.nt k1.z) (k1.nt k1.z) := ref_zero.not
  have hs := ref_sum c bad (p := (k1.nt k1.z, k1.z)) (p' := (k1.nt k1.z, k1.z)) (RefF.run c h' h) hz ref_zero
  exact hs.1.and hs.2
theorem ref_fillU (bits : List Bool) (p : Nat) (u : UInt8) (h : u.toNat ≤ 2) : Ref u (fillU bits p u) := by
  unfold fillU
  split
  · rename_i h2
    refine ⟨.inl h2, ?_⟩
    unfold bitU
    split <;> decide
  · exact ⟨.inr rfl, by omega⟩
theorem ref_fillL (bits : List Bool) : ∀ (l : List UInt8) (p : Nat), (∀ u ∈ l, u.toNat ≤ 2) → RefL l (fillL bits p l)
  | [], _, _ => RefL.nil
  | u :: r, p, h => RefL.cons (ref_fillU bits p u (h u (by simp))) (ref_fillL bits r _ (fun x hx => h x (by simp [hx])))
theorem fillT_frame (bits : List Bool) (t : TraceC) (k : Nat) (hk : k < t.frames.length) : (fillT bits t).frames.getD k [] = fillL bits (startP (listsOf t) (k + 1)) (t.frames.getD k []) := by
  simp only [fillT, List.getD]
  rw [List.getElem?_map, List.getElem?_range hk]
  rfl
theorem fillT_len (bits : List Bool) (t : TraceC) : (fillT bits t).frames.length = t.frames.length := by simp [fillT]
theorem ref_fillT {c : NormC} {t : TraceC} (bits : List Bool) (h : FitsC c t) : RefL t.init (fillT bits t).init ∧ RefF t.frames (fillT bits t).frames := by
  refine ⟨ref_fillL bits _ _ h.inits, (fillT_len bits t).symm, fun i => ?_⟩
  by_cases e : i < t.frames.length
  · rw [fillT_frame bits t i e]
    exact ref_fillL bits _ _ (h.values _ (getD_mem e))
  · have e1 : t.frames.getD i [] = [] := by simp [List.getD, List.getElem?_eq_none (Nat.le_of_not_lt e)]
    have e2 : (fillT bits t).frames.getD i [] = [] := by simp [List.getD, List.getElem?_eq_none (show (fillT bits t).frames.length ≤ i by rw [fillT_len]; exact Nat.le_of_not_lt e)]
    rw [e1, e2]; exact RefL.nil
theorem run_at (c : NormC) : ∀ (fs : List (List UInt8)) (st : List UInt8) (j : Nat), j < fs.length → (k1.run c st fs).getD j [] = k1.vars c (k1.after c st (fs.take j)) (fs.getD j [])
  | [], _, _, h => by simp at h
  | f :: r, st, 0, _ => by rw [Kd.run]; rfl
  | f :: r, st, j + 1, h => by
    rw [Kd.run, List.getD_cons_succ, run_at c r _ j (by simpa using h)]
    rfl
theorem ref_varsAt {c : NormC} {t : TraceC} (bits : List Bool) (h : FitsC c t) (j : Nat) (hj : j < t.frames.length) : RefL (varsAt c t j) (varsAt c (fillT bits t) j) := by
  obtain ⟨h1, h2⟩ := ref_fillT bits h
  have h3 := (RefF.run c h2 h1).2 j
  rw [run_at c _ _ j hj, run_at c _ _ j (by rw [fillT_len]; exact hj)] at h3
  exact h3
theorem ref_le {xs ys : List UInt8} (h : RefL xs ys) : ∀ u ∈ ys, u.toNat ≤ 1 := by
  intro u hu
  obtain ⟨i, hi, he⟩ := List.getElem_of_mem hu
  have := (h.2 i).2
  simpa [List.getD, List.getElem?_eq_getElem hi, he] using this
theorem FitsC.fill {c : NormC} {t : TraceC} (bits : List Bool) (h : FitsC c t) : FitsC c (fillT bits t) := by
  obtain ⟨h1, h2⟩ := ref_fillT bits h
  refine ⟨h.may, h.pos, h.bad, h1.1.symm.trans h.init, fun u hu => by have := ref_le h1 u hu; omega, fun i hi => ?_, by rw [fillT_len]; exact h.one, by rw [fillT_len]; exact h.few, fun k hk => ?_, fun f hf u hu => ?_⟩
  · rcases h.resets i hi with h3 | h3
    · exact .inl h3
    · by_cases e : (c.lats.getD i (0, 0)).2 = 2
      · exact .inl e
      · refine .inr ?_
        rcases (h1.2 i).1 with h4 | h4
        · omega
        · rw [← h4]; exact h3
  · have hk2 : k < t.frames.length := by rw [← fillT_len bits t]; exact hk
    rw [← (h2.2 k).1]; exact h.frames k hk2
  · obtain ⟨i, hi, he⟩ := List.getElem_of_mem hf
    have h3 := ref_le (h2.2 i)
    have h4 : (fillT bits t).frames.getD i [] = f := by simp [List.getD, List.getElem?_eq_getElem hi, he]
    rw [h4] at h3
    have := h3 u hu; omega
theorem zeroL_id (l : List UInt8) (h : ∀ u ∈ l, u.toNat ≤ 1) : zeroL l = l := by
  unfold zeroL
  conv => rhs; rw [← List.map_id l]
  refine List.map_congr_left fun u hu => ?_
  have := h u hu
  unfold zeroU
  rw [if_neg (by omega)]
  rfl
theorem readT_fill {c : NormC} {t : TraceC} (bits : List Bool) (h : FitsC c t) : readT (fillT bits t) = fillT bits t := by
  obtain ⟨h1, h2⟩ := ref_fillT bits h
  have e1 := zeroL_id _ (ref_le h1)
  have e2 : (fillT bits t).frames.map zeroL = (fillT bits t).frames := by
    conv => rhs; rw [← List.map_id (fillT bits t).frames]
    refine List.map_congr_left fun f hf => ?_
    obtain ⟨i, hi, he⟩ := List.getElem_of_mem hf
    have h3 := ref_le (h2.2 i)
    have h4 : (fillT bits t).frames.getD i [] = f := by simp [List.getD, List.getElem?_eq_getElem hi, he]
    rw [h4] at h3
    exact zeroL_id f h3
  unfold readT
  rw [e1, e2]
/-- Whether the filled trace fails, and what was said of it. -/
theorem fill_verdict {c : NormC} {t : TraceC} (bits : List Bool) (h : FitsC c t) (bad : Nat) :
    Ref (k1.verdict c bad t.init t.frames) (k1.verdict c bad (readT (fillT bits t)).init (readT (fillT bits t)).frames) := by
  rw [readT_fill bits h]
  obtain ⟨h1, h2⟩ := ref_fillT bits h
  exact ref_verdict c bad h1 h2
theorem gates_head : ∀ (l : List (Nat × Nat)) (vs : List UInt8), 0 < vs.length → (k1.gates l vs).getD 0 0 = vs.getD 0 0
  | [], _, _ => rfl
  | g :: r, vs, h => by
    rw [Kd.gates, gates_head r _ (by simp), List.getD, List.getElem?_append_left h]; rfl
theorem varsAt_head (c : NormC) (t : TraceC) (j : Nat) : (varsAt c t j).getD 0 0 = 0 := by
  unfold varsAt Kd.vars
  rw [gates_head _ _ (by simp)]
  rfl
end Go.Proofs.Ytdheldhecimfnaa
/- The reference's Surely, by its contract. -/
namespace Go.Proofs.Ytdheldhecimfnaa
open Go Go.RowKit Go.Joins

theorem and1_swap (a b d : Nat) : and1 (and1 a b) d = and1 (and1 a d) b := by
  unfold and1
  by_cases h1 : a = 0 <;> by_cases h2 : a = 1 <;> by_cases h3 : b = 0 <;> by_cases h4 : b = 1 <;> by_cases h5 : d = 0 <;> by_cases h6 : d = 1 <;> simp [*]
theorem an_toNat (a b : UInt8) : (k1.an a b).toNat = and1 a.toNat b.toNat := u8_ofNat_toNat _ (and1_le _ _)
theorem an_swap (a b d : UInt8) : k1.an (k1.an a b) d = k1.an (k1.an a d) b := by
  apply UInt8.toNat.inj
  rw [an_toNat, an_toNat, an_toNat, an_toNat, and1_swap]
theorem an_one (v : UInt8) (h : v.toNat ≤ 2) : k1.an 1 v = v := by
  apply UInt8.toNat.inj
  rw [an_toNat]
  show and1 1 v.toNat = v.toNat
  unfold and1
  by_cases h0 : v.toNat = 0 <;> by_cases h1 : v.toNat = 1 <;> simp [*] <;> omega
/-- A value, and all constraints behind it. -/
def rsum (c : NormC) (l : List (List UInt8)) (v : UInt8) : UInt8 := l.foldl (fun v vars => k1.cons vars v c.cons) v
theorem rsum_snoc (c : NormC) (l : List (List UInt8)) (vars : List UInt8) (v : UInt8) : rsum c (l ++ [vars]) v = k1.cons vars (rsum c l v) c.cons := by
  unfold rsum; rw [List.foldl_append]; rfl
theorem cons_swap (vars : List UInt8) : ∀ (l : List Nat) (a b : UInt8), k1.cons vars (k1.an a b) l = k1.an (k1.cons vars a l) b
  | [], a, b => rfl
  | x :: l, a, b => by
    show k1.cons vars (k1.an (k1.an a b) (k1.val vars x)) l = _
    rw [an_swap, cons_swap vars l]
    rfl
theorem rsum_swap (c : NormC) : ∀ (l : List (List UInt8)) (a b : UInt8), rsum c l (k1.an a b) = k1.an (rsum c l a) b
  | [], a, b => rfl
  | x :: l, a, b => by
    show rsum c l (k1.cons x (k1.an a b) c.cons) = _
    rw [cons_swap, rsum_swap c l]
    rfl
theorem sum_fst (c : NormC) (bad : Nat) : ∀ (l : List (List UInt8)) (p : UInt8 × UInt8), (k1.sum c bad p l).1 = rsum c l p.1
  | [], _ => rfl
  | _ :: l, _ => sum_fst c bad l _
/-- The verdict, the other way round. -/
theorem verdict_rsum (c : NormC) (t : TraceC) (bad : Nat) (h1 : 0 < t.frames.length) (h2 : (k1.val (varsAt c t (t.frames.length - 1)) (c.bads.getD bad 0)).toNat ≤ 2) :
    k1.verdict c bad t.init t.frames = rsum c (k1.run c t.init t.frames) (k1.val (varsAt c t (t.frames.length - 1)) (c.bads.getD bad 0)) := by
  have e : k1.run c t.init t.frames = k1.run c t.init (t.frames.take (t.frames.length - 1)) ++ [varsAt c t (t.frames.length - 1)] := by
    have h3 : t.frames = t.frames.take (t.frames.length - 1) ++ [t.frames.getD (t.frames.length - 1) []] := by
      have h4 := List.take_add_one (l := t.frames) (i := t.frames.length - 1)
      rw [show t.frames.length - 1 + 1 = t.frames.length by omega, List.take_of_length_le (Nat.le_refl _), List.getElem?_eq_getElem (by omega)] at h4
      simpa [List.getD, List.getElem?_eq_getElem (show t.frames.length - 1 < t.frames.length by omega)] using h4
    calc k1.run c t.init t.frames = k1.run c t.init (t.frames.take (t.frames.length - 1) ++ [t.frames.getD (t.frames.length - 1) []]) := congrArg _ h3
      _ = _ := k1.run_snoc c _ _ _
  show k1.an (k1.sum c bad (k1.nt k1.z, k1.z) (k1.run c t.init t.frames)).1 (k1.sum c bad (k1.nt k1.z, k1.z) (k1.run c t.init t.frames)).2 = _
  have e2 : (k1.sum c bad (k1.nt k1.z, k1.z) (k1.run c t.init t.frames)).2 = k1.val (varsAt c t (t.frames.length - 1)) (c.bads.getD bad 0) := by
    rw [e, k1.sum_snoc]
  rw [e2, sum_fst, ← rsum_swap]
  show rsum c _ (k1.an 1 _) = _
  rw [an_one _ h2]
theorem varsAt_le {c : NormC} {t : TraceC} (h : FitsC c t) (k : Nat) (hk : k < t.frames.length) : ∀ u ∈ varsAt c t k, u.toNat ≤ 2 := by
  unfold varsAt Kd.vars
  refine gates_le2 _ _ (fun v hv => ?_)
  rcases List.mem_cons.1 hv with rfl | hv
  · decide
  · rcases List.mem_append.1 hv with hv | hv
    · exact h.values _ (getD_mem hk) v hv
    · exact after_le _ _ h.inits (fun f hf => h.values f (List.mem_of_mem_take hf)) v hv

theorem Sees.slice_at' {w : World} {b off n c : Nat} {ss : List Slc} (h : Sees w (some ⟨b, off, .none⟩) n c (ss.map slV)) (j : Nat) (hj : j < n) :
    w.cell? ⟨b, off + j, .none⟩ = some (slV (ss.getD j slc0)) := by
  have hl : ss.length = n := h.lenMap
  rw [(h.cell j hj).2]
  simp [List.getD, List.getElem?_eq_getElem (show j < ss.length by omega)]

set_option maxRecDepth 100000 in
set_option maxHeartbeats 6400000 in
theorem rsurely_any (c : NormC) (t : TraceC) (s : CSlots) (st : TSlots) (w : World) (h : SeesCir w s c) (ht : SeesTr w st t) (hs : s.small) (hst : st.small) (hlo : -9223372036854775808 ≤ c.ins) (hhi : c.ins < 9223372036854775808) (hb1 : -9223372036854775808 ≤ t.bad ∧ t.bad < 9223372036854775808) (hw : Wide c) :
    Calls Try.prog 21 #[cirV c.ins s, traceV t.bad st] w fun e w' => e = surelyE c t ∧ Below w.heap.size w w' := by
  have HRUN := Lib.hid (fun W (hb : Below w.heap.size w W) => rrun_any c t s st W (h.below hb) (ht.below hb) hs hst hlo hhi hb1 hw)
  have HE : Hid (surelyE c t = if fitsS c t = true then .returned (.tuple #[bv (k1.verdict c t.bad.toNat t.init t.frames), .int .i64 0]) else .returned (.tuple #[.int .u8 0, .int .i64 2])) := rfl
  obtain ⟨E, hE⟩ : ∃ E, E = surelyE c t := ⟨_, rfl⟩
  rw [← hE] at HE ⊢
  have HC := Lib.hid h
  have HSM := Lib.hid hs
  clear hE h ht hlo hhi hb1 hw hst
  unfold cirV traceV at *
  go_enter Try.func21, Try.ntmps21
  go_upto_region 1 with fail
  generalize hW : World.alloc (World.alloc w _) _ = W1
  have hb : Below w.heap.size w W1 := by subst hW; exact ext_trans (ext_alloc _ _) (ext_alloc _ _)
  have hx : W1.heap[w.heap.size]? = some (.cells #[.int .i64 c.ins, .slice s.a1 s.n1 s.c1, .slice s.a2 s.n2 s.c2, .slice s.a3 s.n3 s.c3, .slice s.a4 s.n4 s.c4, .slice s.a5 s.n5 s.c5] 26 (0, 0)) := by subst hW; exact heap_below (heap_new _ _ _ rfl) (ext_alloc _ _)
  have hy : W1.heap[w.heap.size + 1]? = some (.cells #[.int .i64 t.bad, .slice st.a1 st.n1 st.c1, .slice st.a2 st.n2 st.c2] 30 (0, 0)) := by subst hW; exact heap_new _ _ _ (by simp)
  have HB := Lib.hid hb
  have HX := Lib.hid hx
  have HY := Lib.hid hy
  clear hW hb hx hy
  have p0 := cell_of_block HX.out 0
  have p1 := cell_of_block HX.out 1
  have p2 := cell_of_block HX.out 2
  have p3 := cell_of_block HX.out 3
  have p4 := cell_of_block HX.out 4
  have p5 := cell_of_block HX.out 5
  have r0 := cell_of_block HY.out 0
  have r1 := cell_of_block HY.out 1
  have r2 := cell_of_block HY.out 2
  go_wp2_with fail
  refine (HRUN.out W1 HB.out).mono ?_
  intro e W2 hp
  have HP := Lib.hid hp
  clear hp HRUN p0 p1 p2 p3 p4 p5 r0 r1 r2
  cases hq : fitsS c t with
  | false =>
    have HO : Hid (E = .returned (.tuple #[.int .u8 0, .int .i64 2])) := by show _ = _; rw [HE.out, hq]; rfl
    obtain ⟨_, hno, hb⟩ := HP.out
    obtain rfl := hno hq
    have HB2 := Lib.hid (ext_trans HB.out hb)
    clear hno hb HP hq
    go_wp2
    refine bodyPost_ret (v := .tuple #[.int .u8 0, .int .i64 2]) ?_ rfl ?_
    · simp [results, Try.results21, go_sem]
    · exact ⟨by rw [HO.out], HB2.out⟩
  | true =>
  have HF := Lib.hid (fits_iff.1 hq)
  obtain ⟨lb, lo, lc, ss, rfl, hrows, hb⟩ := runpost_yes HF.out HP.out
  have HVD := verdict_rsum c t t.bad.toNat HF.out.one
  obtain ⟨N, hN⟩ : ∃ N, N = t.frames.length := ⟨_, rfl⟩
  rw [← hN] at hrows
  rw [← hN] at HVD
  rw [← hN]
  obtain ⟨M, hM⟩ : ∃ M, M = N - 1 := ⟨_, rfl⟩
  rw [← hM] at HVD
  have hN1 : 0 < N := by rw [hN]; exact HF.out.one
  have hN2 : N ≤ 256 := by rw [hN]; exact HF.out.few
  have HMN : Hid (M < N ∧ N = M + 1) := ⟨by omega, by omega⟩
  obtain ⟨nb, hnb⟩ : ∃ nb : Nat, nb = t.bad.toNat := ⟨_, rfl⟩
  have hbad : t.bad = (nb : Int) := by have := HF.out.pos; omega
  have hbl : nb < c.bads.length := by rw [hnb]; exact HF.out.bad
  have hn4 : c.bads.length = s.n4 := HC.out.s4.lenMap
  have hn5 : c.cons.length = s.n5 := HC.out.s5.lenMap
  have hn5b : s.n5 ≤ 1048576 := HSM.out.n5
  rw [← hnb] at HVD HE
  have HO : Hid (E = .returned (.tuple #[bv (k1.verdict c nb t.init t.frames), .int .i64 0])) := by show _ = _; rw [HE.out, hq]; rfl
  have HX2 := Lib.hid (heap_below HX.out hb)
  have HY2 := Lib.hid (heap_below HY.out hb)
  have HB2 := Lib.hid (ext_trans HB.out hb)
  have HRW := Lib.hid hrows
  have HNL := Lib.hid hN
  rw [hbad] at HY2
  have hlit : ∀ x, x ≤ 2 * varsN c + 1 → x / 2 < 1 + varsN c ∧ x < 4294967296 := fun x hx => by have := HF.out.may.few; omega
  have HVL : Hid (∀ k, k < N → (varsAt c t k).length = 1 + varsN c) := fun k hk => varsAt_len c t HF.out.init HF.out.frames k (by rw [← hN]; exact hk)
  have HVA : Hid (∀ k, k < N → ∀ u ∈ varsAt c t k, u.toNat ≤ 2) := fun k hk => varsAt_le HF.out k (by rw [← hN]; exact hk)
  obtain ⟨D, hD⟩ : ∃ D, D = c.bads.getD nb 0 := ⟨_, rfl⟩
  rw [← hD] at HVD
  have hDL := hlit D (by rw [hD]; exact HF.out.may.bads _ (getD_mem hbl))
  have HCL : Hid (∀ j, j < s.n5 → c.cons.getD j 0 / 2 < 1 + varsN c ∧ c.cons.getD j 0 < 4294967296) := fun j hj => hlit _ (HF.out.may.cons _ (getD_mem (by rw [hn5]; exact hj)))
  obtain ⟨b4, o4, e4, _⟩ := HC.out.s4.addr (show 0 < s.n4 by omega)
  have hc4 := (HC.out.below HB2.out).s4
  rw [e4] at hc4
  have pd := hc4.num nb (by omega)
  rw [← hD] at pd
  obtain ⟨V0, hV0⟩ : ∃ v, v = k1.val (varsAt c t M) D := ⟨_, rfl⟩
  have hv0 : V0.toNat ≤ 2 := by rw [hV0]; exact k1_val_le (HVA.out M HMN.out.1) D
  rw [← hV0] at HVD
  have HVD2 := Lib.hid (HVD hv0)
  obtain ⟨rb', ro', rc', hsse, hrs⟩ := HRW.out.rows M HMN.out.1
  have hlc2 : W2.cell? ⟨lb, lo + M, none⟩ = some (.slice (some ⟨rb', ro', none⟩) (1 + varsN c) rc') := by
    have h1 := HRW.out.list.slice_at' M HMN.out.1
    rw [hsse] at h1
    exact h1
  obtain ⟨NV, hNV⟩ : ∃ n, n = 1 + varsN c := ⟨_, rfl⟩
  rw [← hNV] at hlc2 hrs hDL HVL HCL
  have HNV := Lib.hid hNV
  have HV0 : Hid (∀ j, Calls Try.prog 45 #[.slice (some ⟨rb', ro', none⟩) NV rc', .int .u32 D] (W2.drewN j) fun e w' => e = .returned (.int .u8 (V0.toNat : Int)) ∧ w' = W2.drewN j) := fun j => by
    have h1 := refvalue_any (varsAt c t M) (some ⟨rb', ro', none⟩) NV rc' D (W2.drewN j) (hrs.below (ext_drewN W2 j)) hDL.2
    rw [valueL_eq (by rw [HVL.out M HMN.out.1]; exact hDL.1) (HVA.out M HMN.out.1), ← hV0] at h1
    exact h1
  obtain ⟨x0, hx0⟩ : ∃ x : Nat, x = V0.toNat := ⟨_, rfl⟩
  rw [← hx0] at HV0
  have HX0 := Lib.hid hx0
  have hIb : (nb : Int) < (s.n4 : Int) := by omega
  have hIb0 : (0 : Int) ≤ (nb : Int) := by omega
  have hIM : (M : Int) < (N : Int) := by have := HMN.out; omega
  have hIM0 : (0 : Int) ≤ (M : Int) := by omega
  have WM : IntKind.i64.wrap ((N : Int) - 1) = (M : Int) := by have := HMN.out; rw [IntWalk.i64_in _ (by omega)]; omega
  have q4 := cell_of_block HX2.out 4
  have z0 := cell_of_block HY2.out 0
  rw [e4] at q4
  have HN5 := Lib.hid hn5
  clear hNV hn4 hn5 e4 hc4 HVD hN hM hnb hbad hbl hq hb hrows hD hDL hsse hrs hV0 hv0 hx0 hlit HX HY HB HP HE
  go_wp2
  go_quiet ((go_at_call 45; exact Calls.quiet_of_same (HV0.out _)))
  clear q4 z0 pd hlc2
  rename_i nq
  obtain ⟨W3, hW3⟩ : ∃ W3, W3 = W2.drewN nq := ⟨_, rfl⟩
  rw [← hW3]
  have hb3 : Below W2.heap.size W2 W3 := by rw [hW3]; exact ext_drewN _ _
  have HRW3 := Lib.hid (HRW.out.below hb3)
  have HX3 := Lib.hid (heap_below HX2.out hb3)
  have HB3 := Lib.hid (ext_trans HB2.out hb3)
  clear hW3 hb3 HX2 HB2 HV0 HRW HY2 WM hIb hIb0 hIM hIM0
  go_wp2
  go_loopw [9, 8, 10] (fun i v _ wr => ∃ (k x : Nat), k ≤ N ∧ i = .int .i64 k ∧ v = .int .u8 x ∧ Hid (x = (rsum c (k1.run c t.init (t.frames.take k)) V0).toNat) ∧ Hid (Below W3.heap.size W3 wr)) (fun i _ _ _ => N - (intOf i).toNat)
  case atStart => exact ⟨0, x0, Nat.zero_le _, rfl, rfl, HX0.out, Below.refl _ _⟩
  case round =>
    obtain ⟨k, x, hk, rfl, rfl, hx, hB⟩ := hrel
    by_cases hlt : k < N
    · have hI1 : (k : Int) < (N : Int) := by omega
      have hI0 : (0 : Int) ≤ (k : Int) := by omega
      have W1' : IntKind.i64.wrap ((k : Int) + 1) = (k : Int) + 1 := IntWalk.i64_in _ (by omega)
      obtain ⟨VK, hVK⟩ : ∃ v, v = varsAt c t k := ⟨_, rfl⟩
      obtain ⟨A, hA⟩ : ∃ v, v = rsum c (k1.run c t.init (t.frames.take k)) V0 := ⟨_, rfl⟩
      have HSNOC : Hid (rsum c (k1.run c t.init (t.frames.take (k + 1))) V0 = k1.cons VK A c.cons) := by
        show _ = _
        have hkl : k < t.frames.length := by rw [← HNL.out]; exact hlt
        rw [List.take_add_one, List.getElem?_eq_getElem hkl]
        simp only [Option.toList_some]
        rw [Kd.run_snoc, rsum_snoc, ← hA, hVK]
        unfold varsAt
        simp [List.getD, List.getElem?_eq_getElem hkl]
      obtain ⟨rb, ro, rc, hsse, hrs⟩ := (HRW3.out.below hB.out).rows k hlt
      have hlc : wr.cell? ⟨lb, lo + k, none⟩ = some (.slice (some ⟨rb, ro, none⟩) NV rc) := by
        have h1 := (HRW3.out.below hB.out).list.slice_at' k hlt
        rw [hsse, ← HNV.out] at h1
        exact h1
      rw [← HNV.out, ← hVK] at hrs
      have HLC := Lib.hid hlc
      have HRS := Lib.hid hrs
      have HA := Lib.hid hA
      have HXA : Hid (x = A.toNat) := by show _ = _; rw [hA]; exact hx.out
      have HVKL : Hid (VK.length = NV) := by show _ = _; rw [hVK]; exact HVL.out k hlt
      have HVKA : Hid (∀ u ∈ VK, u.toNat ≤ 2) := by rw [hVK]; exact HVA.out k hlt
      have HBW := Lib.hid hB.out
      have HXW := Lib.hid (heap_below HX3.out hB.out)
      clear hlc hrs hsse hVK hA hx hB
      go_wp2
      go_loopw [10, 8] (fun i v wr2 => ∃ (m y : Nat), m ≤ s.n5 ∧ i = .int .i64 m ∧ v = .int .u8 y ∧ Hid (y = (k1.cons VK A (c.cons.take m)).toNat) ∧ Hid (Below wr.heap.size wr wr2)) (fun i _ _ => s.n5 - (intOf i).toNat)
      case atStart => exact ⟨0, x, Nat.zero_le _, rfl, rfl, HXA.out, Below.refl _ _⟩
      case round =>
        obtain ⟨m, y, hm, rfl, rfl, hy, hB2⟩ := hrel
        have q5 := cell_of_block (heap_below HXW.out hB2.out) 5
        by_cases hlt2 : m < s.n5
        · obtain ⟨b5, o5, e5, _⟩ := HC.out.s5.addr (show 0 < s.n5 by omega)
          have hc5 := (HC.out.below (ext_trans HB3.out (ext_trans HBW.out hB2.out))).s5
          rw [e5] at hc5 q5
          clear e5
          have px := hc5.num m hlt2
          have hsn : c.cons.take (m + 1) = c.cons.take m ++ [c.cons.getD m 0] := by
            have hml : m < c.cons.length := by rw [HN5.out]; exact hlt2
            rw [List.take_add_one, List.getElem?_eq_getElem hml]
            simp [List.getD, List.getElem?_eq_getElem hml]
          have hLL := HCL.out m hlt2
          obtain ⟨L, hL⟩ : ∃ L, L = c.cons.getD m 0 := ⟨_, rfl⟩
          rw [← hL] at px hsn hLL
          have plc := (hB2.out.cell (World.block_lt_of_cell? _ _ HLC.out)).trans HLC.out
          obtain ⟨U, hU⟩ : ∃ u, u = k1.val VK L := ⟨_, rfl⟩
          have HV1 : Hid (∀ j, Calls Try.prog 45 #[.slice (some ⟨rb, ro, none⟩) NV rc, .int .u32 L] (wr.drewN j) fun e w' => e = .returned (.int .u8 (U.toNat : Int)) ∧ w' = wr.drewN j) := fun j => by
            have h1 := refvalue_any VK (some ⟨rb, ro, none⟩) NV rc L (wr.drewN j) ((HRS.out.below hB2.out).below (ext_drewN wr j)) hLL.2
            rw [valueL_eq (by rw [HVKL.out]; exact hLL.1) HVKA.out, ← hU] at h1
            exact h1
          have HNEW : Hid (and1 y U.toNat = (k1.cons VK A (c.cons.take (m + 1))).toNat) := by
            show _ = _
            rw [hsn, Kd.cons_snoc, an_toNat, ← hy.out, hU]
          obtain ⟨un, hun⟩ : ∃ n : Nat, n = U.toNat := ⟨_, rfl⟩
          rw [← hun] at HV1 HNEW
          obtain ⟨z, hz⟩ : ∃ z, z = and1 y un := ⟨_, rfl⟩
          have HAN := rand1_any y un
          rw [← hz] at HAN HNEW
          have HAN2 := Lib.hid HAN
          have hI3 : (m : Int) < (s.n5 : Int) := by omega
          have hI4 : (0 : Int) ≤ (m : Int) := by omega
          have W2' : IntKind.i64.wrap ((m : Int) + 1) = (m : Int) + 1 := IntWalk.i64_in _ (by omega)
          have HB2 := Lib.hid hB2.out
          clear hc5 hsn hLL hL hU hun hz HAN hy hB2
          go_wp2
          go_quiet ((first | (go_at_call 45; exact Calls.quiet_of_same (HV1.out _)) | (go_at_call 46; exact Calls.quiet_of_same (HAN2.out _))))
          clear q5 px plc
          rename_i nq2
          go_wp2
          go_roundw
          case rel => exact ⟨m + 1, z, by omega, by go_num, rfl, HNEW.out, ext_trans HB2.out (ext_drewN _ _)⟩
          case measure => simp [intOf]; omega
        · obtain rfl : m = s.n5 := by omega
          have hy2 : y = (k1.cons VK A c.cons).toNat := by
            have h1 := hy.out
            rw [List.take_of_length_le (by rw [HN5.out]; exact Nat.le_refl _)] at h1
            exact h1
          have HY2 : Hid (y = (rsum c (k1.run c t.init (t.frames.take (k + 1))) V0).toNat) := by show _ = _; rw [HSNOC.out]; exact hy2
          have HB2 := Lib.hid hB2.out
          clear hy2 hy hB2
          go_wp2
          go_roundw
          case rel => exact ⟨k + 1, y, by omega, by go_num, rfl, HY2.out, ext_trans HBW.out HB2.out⟩
          case measure => simp [intOf]; omega
    · obtain rfl : k = N := by omega
      have hx2 : x = (k1.verdict c nb t.init t.frames).toNat := by
        have h1 := hx.out
        rw [List.take_of_length_le (by rw [← HNL.out]; exact Nat.le_refl _)] at h1
        rw [HVD2.out]
        exact h1
      have HR : Hid (E = .returned (.tuple #[.int .u8 (x : Int), .int .i64 0])) := by show _ = _; rw [HO.out, hx2]; rfl
      have HBE := Lib.hid (ext_trans HB3.out hB.out)
      clear hx2 hx hB
      go_wp2
      refine bodyPost_ret (v := .tuple #[.int .u8 (x : Int), .int .i64 0]) ?_ rfl ?_
      · simp [results, Try.results21, go_sem]
      · exact ⟨by rw [HR.out], HBE.out⟩
end Go.Proofs.Ytdheldhecimfnaa
namespace Go.Proofs.Ytdheldhecimfnaa
open Go Go.RowKit Go.Joins

set_option maxRecDepth 100000 in
set_option maxHeartbeats 6400000 in
theorem rfails_any (c : NormC) (t : TraceC) (s : CSlots) (st : TSlots) (w : World) (h : SeesCir w s c) (ht : SeesTr w st t) (hs : s.small) (hst : st.small) (hlo : -9223372036854775808 ≤ c.ins) (hhi : c.ins < 9223372036854775808) (hb1 : -9223372036854775808 ≤ t.bad ∧ t.bad < 9223372036854775808) (hw : Wide c) :
    Calls Try.prog 20 #[cirV c.ins s, traceV t.bad st] w fun e w' => e = failsE c t ∧ Below w.heap.size w w' := by
  have HFIT := Lib.hid (fun W (hb : Below w.heap.size w W) => reffits_any c t s st W (h.below hb) (ht.below hb) hs hst hlo hhi hb1 hw)
  have HREAD := Lib.hid (fun W (hb : Below w.heap.size w W) => refread_any t st W (ht.below hb) hst)
  have HSU := Lib.hid (fun (st' : TSlots) W (hb : Below w.heap.size w W) (ht' : SeesTr W st' (readT t)) (hs' : st'.small) => rsurely_any c (readT t) s st' W (h.below hb) ht' hs hs' hlo hhi hb1 hw)
  have hfb : (readT t).bad = t.bad := rfl
  rw [hfb] at HSU
  have HE : Hid (failsE c t = if fitsS c t = true then .returned (.tuple #[.bool (decide ((k1.verdict c t.bad.toNat (readT t).init (readT t).frames).toNat = 1)), .int .i64 0]) else .returned (.tuple #[.bool false, .int .i64 2])) := rfl
  obtain ⟨E, hE⟩ : ∃ E, E = failsE c t := ⟨_, rfl⟩
  rw [← hE] at HE ⊢
  have HSE : Hid (fitsS c t = true → surelyE c (readT t) = .returned (.tuple #[bv (k1.verdict c t.bad.toNat (readT t).init (readT t).frames), .int .i64 0])) := fun hq => by
    unfold surelyE
    rw [if_pos (fits_iff.2 (fits_iff.1 hq).read)]
    rfl
  obtain ⟨SE, hSE⟩ : ∃ E, E = surelyE c (readT t) := ⟨_, rfl⟩
  rw [← hSE] at HSU HSE
  obtain ⟨q, hq⟩ : ∃ q, q = fitsS c t := ⟨_, rfl⟩
  rw [← hq] at HFIT HE HSE
  clear hfb hE hSE hq h ht hs hst hlo hhi hb1 hw
  unfold cirV traceV at *
  go_enter Try.func20, Try.ntmps20
  go_upto_region 1 with fail
  generalize hW : World.alloc (World.alloc w _) _ = W1
  have hb : Below w.heap.size w W1 := by subst hW; exact ext_trans (ext_alloc _ _) (ext_alloc _ _)
  have hx : W1.heap[w.heap.size]? = some (.cells #[.int .i64 c.ins, .slice s.a1 s.n1 s.c1, .slice s.a2 s.n2 s.c2, .slice s.a3 s.n3 s.c3, .slice s.a4 s.n4 s.c4, .slice s.a5 s.n5 s.c5] 26 (0, 0)) := by subst hW; exact heap_below (heap_new _ _ _ rfl) (ext_alloc _ _)
  have hy : W1.heap[w.heap.size + 1]? = some (.cells #[.int .i64 t.bad, .slice st.a1 st.n1 st.c1, .slice st.a2 st.n2 st.c2] 30 (0, 0)) := by subst hW; exact heap_new _ _ _ (by simp)
  have HB := Lib.hid hb
  have HX := Lib.hid hx
  have HY := Lib.hid hy
  clear hW hb hx hy
  have p0 := cell_of_block HX.out 0
  have p1 := cell_of_block HX.out 1
  have p2 := cell_of_block HX.out 2
  have p3 := cell_of_block HX.out 3
  have p4 := cell_of_block HX.out 4
  have p5 := cell_of_block HX.out 5
  have r0 := cell_of_block HY.out 0
  have r1 := cell_of_block HY.out 1
  have r2 := cell_of_block HY.out 2
  go_wp2_with fail
  refine (HFIT.out W1 HB.out).mono ?_
  rintro e W2 ⟨rfl, hb⟩
  have HX2 := Lib.hid (heap_below HX.out hb)
  have HY2 := Lib.hid (heap_below HY.out hb)
  have HB2 := Lib.hid (ext_trans HB.out hb)
  clear p0 p1 p2 p3 p4 p5 r0 r1 r2 HX HY HB hb HFIT
  cases q with
  | false =>
    go_wp2
    refine bodyPost_ret (v := .tuple #[.bool false, .int .i64 2]) ?_ rfl ?_
    · simp [results, Try.results20, go_sem]
    · exact ⟨by rw [HE.out]; rfl, HB2.out⟩
  | true =>
  have hse := HSE.out rfl
  obtain ⟨RV, hRV⟩ : ∃ v, v = k1.verdict c t.bad.toNat (readT t).init (readT t).frames := ⟨_, rfl⟩
  rw [← hRV] at HE hse
  obtain ⟨vn, hvn⟩ : ∃ n : Nat, n = RV.toNat := ⟨_, rfl⟩
  have hbv : bv RV = .int .u8 (vn : Int) := by rw [hvn]; rfl
  rw [hbv] at hse
  rw [← hvn] at HE
  have HSE2 := Lib.hid hse
  have HS0 := Lib.hid (keep63 HX2.out HY2.out)
  clear hse hRV hvn hbv HSE
  go_upto_region 3 with fail
  refine wp_region_noPanic ?_
  refine wp_region_held (S := fun w' => w'.cell? ⟨w.heap.size, 0, none⟩ = some (.int .i64 c.ins) ∧ w'.cell? ⟨w.heap.size, 1, none⟩ = some (.slice s.a1 s.n1 s.c1) ∧ w'.cell? ⟨w.heap.size, 2, none⟩ = some (.slice s.a2 s.n2 s.c2) ∧ w'.cell? ⟨w.heap.size, 3, none⟩ = some (.slice s.a3 s.n3 s.c3) ∧ w'.cell? ⟨w.heap.size, 4, none⟩ = some (.slice s.a4 s.n4 s.c4) ∧ w'.cell? ⟨w.heap.size, 5, none⟩ = some (.slice s.a5 s.n5 s.c5) ∧ w'.cell? ⟨w.heap.size + 1, 0, none⟩ = some (.int .i64 t.bad) ∧ w'.cell? ⟨w.heap.size + 1, 1, none⟩ = some (.slice st.a1 st.n1 st.c1) ∧ w'.cell? ⟨w.heap.size + 1, 2, none⟩ = some (.slice st.a2 st.n2 st.c2)) (by kernel_rfl) ?_
  generalize hY : ({ W2 with drawn := W2.drawn + 1 } : World) = Y0
  have hY0 : Below W2.heap.size W2 Y0 := by subst hY; exact (Below.refl _ _).drew
  have HSD := Lib.hid (keep9 HS0.out hY0)
  have HYB := Lib.hid (ext_trans HB2.out hY0)
  clear hY0 hY
  refine wpAnyH_take (i := 0) (v := ?_) (by simp only [List.getElem?_toArray, List.getElem?_cons_zero]; rfl) (by kernel_rfl) (by kernel_rfl) (by kernel_rfl) (fun _ _ _ h => h) (Or.inl ⟨by rfl, ?_⟩) HSD.out ?_
  rotate_left
  · intro w hSw
    (try dsimp only at hSw)
    obtain ⟨q0_, q1_, q2_, q3_, q4_, q5_, q6_, q7_, q8_⟩ := hSw
    go_simp
    try with_reducible rfl
  try simp only [Act.put, List.setIfInBounds_toArray, List.set_cons_zero, List.set_cons_succ]
  refine wpAnyH_take (i := 1) (v := ?_) (by simp only [List.getElem?_toArray, List.getElem?_cons_zero, List.getElem?_cons_succ]; rfl) (by kernel_rfl) (by kernel_rfl) (by kernel_rfl) (fun _ _ _ h => h) (Or.inl ⟨by rfl, ?_⟩) HSD.out ?_
  rotate_left
  · intro w hSw
    (try dsimp only at hSw)
    obtain ⟨q0_, q1_, q2_, q3_, q4_, q5_, q6_, q7_, q8_⟩ := hSw
    go_simp
    try with_reducible rfl
  try simp only [Act.put, List.setIfInBounds_toArray, List.set_cons_zero, List.set_cons_succ]
  refine wpAnyH_ready (rs := [2]) (by kernel_rfl) (by simp) ?_
  refine AllReadyH.cons (by simp only [List.getElem?_toArray, List.getElem?_cons_zero, List.getElem?_cons_succ]; rfl) (fun K hK => ?_) AllReadyH.nil
  go_simp
  refine (HREAD.out _ HYB.out).mono ?_
  rintro e s1 ⟨st', rfl, ht', hs', b1⟩
  have HT1 := Lib.hid ht'
  have HSM1 := Lib.hid hs'
  have HB3 := Lib.hid (ext_trans HYB.out b1)
  have HS1 := Lib.hid (keep9 HSD.out b1)
  clear b1 ht' hs'
  refine hK.out _ _ HS1.out (fun _ => ?_)
  clear hK K
  try simp only [Act.put, List.setIfInBounds_toArray, List.set_cons_zero, List.set_cons_succ]
  refine wpAnyH_ready (rs := [3]) (by kernel_rfl) (by simp) ?_
  refine AllReadyH.cons (by simp only [List.getElem?_toArray, List.getElem?_cons_zero, List.getElem?_cons_succ]; rfl) (fun K hK => ?_) AllReadyH.nil
  go_simp
  refine (HSU.out st' _ HB3.out HT1.out HSM1.out).mono ?_
  rintro e s2 ⟨rfl, b2⟩
  have HB4 := Lib.hid (ext_trans HB3.out b2)
  have HS2 := Lib.hid (keep9 HS1.out b2)
  clear b2
  rw [HSE2.out]
  refine hK.out _ _ HS2.out (fun _ => ?_)
  clear hK K
  try simp only [Act.put, List.setIfInBounds_toArray, List.set_cons_zero, List.set_cons_succ]
  refine wpAnyH_take (i := 4) (v := ?_) (by simp only [List.getElem?_toArray, List.getElem?_cons_zero, List.getElem?_cons_succ]; rfl) (by kernel_rfl) (by kernel_rfl) (by kernel_rfl) (fun _ _ _ h => h) (Or.inl ⟨by rfl, ?_⟩) HS2.out ?_
  rotate_left
  · intro w hSw
    (try dsimp only at hSw)
    obtain ⟨q0_, q1_, q2_, q3_, q4_, q5_, q6_, q7_, q8_⟩ := hSw
    go_simp
    try with_reducible rfl
  try simp only [Act.put, List.setIfInBounds_toArray, List.set_cons_zero, List.set_cons_succ]
  refine wpAnyH_take (i := 5) (v := ?_) (by simp only [List.getElem?_toArray, List.getElem?_cons_zero, List.getElem?_cons_succ]; rfl) (by kernel_rfl) (by kernel_rfl) (by kernel_rfl) (fun _ _ _ h => h) (Or.inl ⟨by rfl, ?_⟩) HS2.out ?_
  rotate_left
  · intro w hSw
    (try dsimp only at hSw)
    obtain ⟨q0_, q1_, q2_, q3_, q4_, q5_, q6_, q7_, q8_⟩ := hSw
    go_simp
    try with_reducible rfl
  try simp only [Act.put, List.setIfInBounds_toArray, List.set_cons_zero, List.set_cons_succ]
  refine wpAnyH_take (i := 6) (v := ?_) (by simp only [List.getElem?_toArray, List.getElem?_cons_zero, List.getElem?_cons_succ]; rfl) (by kernel_rfl) (by kernel_rfl) (by kernel_rfl) (fun _ _ _ h => h) (Or.inl ⟨by rfl, ?_⟩) HS2.out ?_
  rotate_left
  · intro w hSw
    (try dsimp only at hSw)
    obtain ⟨q0_, q1_, q2_, q3_, q4_, q5_, q6_, q7_, q8_⟩ := hSw
    go_simp
    try with_reducible rfl
  try simp only [Act.put, List.setIfInBounds_toArray, List.set_cons_zero, List.set_cons_succ]
  refine wpAnyH_take (i := 7) (v := ?_) (by simp only [List.getElem?_toArray, List.getElem?_cons_zero, List.getElem?_cons_succ]; rfl) (by kernel_rfl) (by kernel_rfl) (by kernel_rfl) (fun _ _ _ h => h) (Or.inl ⟨by rfl, ?_⟩) HS2.out ?_
  rotate_left
  · intro w hSw
    (try dsimp only at hSw)
    obtain ⟨q0_, q1_, q2_, q3_, q4_, q5_, q6_, q7_, q8_⟩ := hSw
    go_simp
    try with_reducible rfl
  try simp only [Act.put, List.setIfInBounds_toArray, List.set_cons_zero, List.set_cons_succ]
  refine wpAnyH_take (i := 8) (v := ?_) (by simp only [List.getElem?_toArray, List.getElem?_cons_zero, List.getElem?_cons_succ]; rfl) (by kernel_rfl) (by kernel_rfl) (by kernel_rfl) (fun _ _ _ h => h) (Or.inl ⟨by rfl, ?_⟩) HS2.out ?_
  rotate_left
  · intro w hSw
    (try dsimp only at hSw)
    obtain ⟨q0_, q1_, q2_, q3_, q4_, q5_, q6_, q7_, q8_⟩ := hSw
    go_simp
    try with_reducible rfl
  try simp only [Act.put, List.setIfInBounds_toArray, List.set_cons_zero, List.set_cons_succ]
  refine wpAnyH_done (by kernel_rfl) ?_ _
  refine NoPanic.normal ?_
  have hdec : ((vn : Int) == 1) = decide (vn = 1) := by rw [Bool.eq_iff_iff]; simp; omega
  go_wp2
  refine bodyPost_ret (v := .tuple #[.bool (decide (vn = 1)), .int .i64 0]) ?_ rfl ?_
  · simp [results, Try.results20, go_sem]
  · exact ⟨by rw [HE.out]; rfl, HB4.out⟩
end Go.Proofs.Ytdheldhecimfnaa
