/- A circuit and a trace that came in: their lists are slices that read as numbers. -/
import Derived.Test.YtcoehbkjccfhlaaGEncM00
import Derived.Test.YtcoehbkjccfhlaaGEncM01
import Derived.Test.YtcoehbkjccfhlaaGEncM03
import Derived.Test.YtcoehbkjccfhlaaGEncM04
import Derived.Test.YtcoehbkjccfhlaaGEncM07
import Derived.Test.YtcoehbkjccfhlaaRows
import Derived.Test.YtcoehbkjccfhlaaGEncM05
import Derived.BigQuiet
import Derived.BigRegion
import Derived.Deep.AppendLies
import Derived.Deep.CutRange
import Derived.Deep.QuietTactic
import Derived.Deep.RegionHeld3
import Derived.Deep.RegionLaw
import Derived.Deep.RegionWith
import Derived.KernelRfl
import Derived.Laws.Bits64b
import Derived.Laws.BitsAllLaws
import Derived.Laws.BitsLemmas
import Derived.Laws.EntriesVeiled
import Derived.Laws.Tables
import Derived.Lib.AppendStr
import Derived.Lib.AppendZeros
import Derived.Lib.ConvBytes
import Derived.Lib.Hide
import Derived.Lib.SlBytesRow
import Derived.Lib.SmallJoins
import Derived.Maps.AppendAt
import Derived.OrdersHeld
import Derived.Shelf.Bytes.SlSmallAll
import Derived.WalkKit
import Derived.WalkLawsBesides
import Derived.WalkSpells
import Derived.LoopIn
import Derived.LoopNIn
import Derived.OrdersIn
import Derived.OwnWalkIn
import Derived.RangeFuncBox
import Derived.RangeFuncCalls
import Derived.RangeFuncLeaves
import Derived.RangeFuncNested
import Derived.RangeFuncWrites
import Derived.Shelf.Abstract
import Derived.Shelf.RegionOpen
import Derived.Sort.CutIn
import Derived.Stop.RegionWithIn
import Derived.TacticsInMore
import Derived.Test.YtcoehbkjccfhlaaGEncM02
import Derived.ChangeSame
import Derived.Deep.DeepHandedRow
import Derived.Deep.Fields
import Derived.Deep.Slices
import Derived.Lib.LaidTab
import Derived.OpenShut
import Derived.ProofKit
import Derived.Stop.LaidErr
/- sim: isValue, areValues, Value; the reference's fine and Value, by their contracts. -/
namespace Go.Proofs.Ytcoehbkjccfhlaa
open Go Go.RowKit Go.Joins

set_option maxRecDepth 100000 in
theorem fine_any (many : Int) (l : List UInt8) (a : Option Addr) (n c : Nat) (hn : n ≤ 1048576) (w : World) (h : Sees w a n c (l.map bv)) :
    Calls Try.prog 68 #[.slice a n c, .int .i64 many] w fun e w' => e = .returned (.bool (valsOk l many)) ∧ w = w' := by
  have hl := h.lenMap
  obtain ⟨q, hq⟩ : ∃ q, q = valsOk l many := ⟨_, rfl⟩
  have NO : Hid (∀ k, k < n → 2 < (l.getD k 0).toNat → q = false) := fun k hk hb => by
    rw [hq]; unfold valsOk
    rw [show l.any (fun u => decide (2 < u.toNat)) = true from List.any_eq_true.2 ⟨_, getD_mem (by rw [hl]; exact hk), decide_eq_true hb⟩]; simp
  have YES : Hid ((∀ k, k < n → ¬ 2 < (l.getD k 0).toNat) → q = decide ((n : Int) = many)) := fun hh => by
    rw [hq]; unfold valsOk
    rw [hl, show l.any (fun u => decide (2 < u.toNat)) = false from any_none (all_of_getD (d := 0) (fun j hj => decide_eq_false (hh j (by rw [← hl]; exact hj))))]; simp
  have HS := Lib.hid h
  have HL := Lib.hid hl
  rw [← hq]
  clear hq h hl
  go_enter Try.func68, Try.ntmps68
  go_wp2
  go_loop [5] (fun i => ∃ k : Nat, k ≤ n ∧ i = .int .i64 k ∧ Hid (∀ j, j < k → ¬ 2 < (l.getD j 0).toNat)) (fun i => n - (intOf i).toNat)
  case atStart => exact ⟨0, Nat.zero_le _, rfl, fun j hj => absurd hj (by omega)⟩
  case round =>
    obtain ⟨k, hk, rfl, hno⟩ := hrel
    by_cases hlt : k < n
    · obtain ⟨b, off, rfl, hbw⟩ := HS.out.addr (by omega)
      have hcx := HS.out.byte k hlt
      have W1 : IntKind.i64.wrap ((k : Int) + 1) = (k : Int) + 1 := IntWalk.i64_in _ (by omega)
      obtain ⟨u, hu⟩ : ∃ u, u = (l.getD k 0).toNat := ⟨_, rfl⟩
      have hcx2 : w.cell? ⟨b, off + k, none⟩ = some (.int .u8 (u : Int)) := by rw [hu]; exact hcx
      have HU := Lib.hid hu
      clear hcx hu
      by_cases hq : 2 < u
      · have e1 : decide ((2 : Int) < (u : Int)) = true := by simp; omega
        have HQ : Hid (q = false) := NO.out k hlt (by rw [← HU.out]; exact hq)
        go_wp2
        go_ret
        exact ⟨by rw [HQ.out]; rfl, rfl⟩
      · have e1 : decide ((2 : Int) < (u : Int)) = false := by simp; omega
        have HQ := Lib.hid hq
        clear hq
        go_wp2
        go_round
        case rel =>
          refine ⟨k + 1, by omega, by go_num, fun j hj => ?_⟩
          rcases Nat.lt_or_ge j k with h | h
          · exact hno.out j h
          · have : j = k := by omega
            subst this
            rw [← HU.out]; exact HQ.out
        case measure => simp [intOf]; omega
    · have hkn : k = n := by omega
      subst hkn
      have Y := Lib.hid (YES.out hno.out)
      by_cases hq : (k : Int) = many
      · have e1 : ((k : Int) == many) = true := by simpa using hq
        have HQ := Lib.hid hq
        clear hq
        go_wp2
        go_ret
        exact ⟨by rw [Y.out]; have := HQ.out; simp [this], rfl⟩
      · have e1 : ((k : Int) == many) = false := by simpa using hq
        have e2 : ((k : Int) = many) = False := by simpa using hq
        have HQ := Lib.hid hq
        clear hq
        go_wp2
        go_ret
        exact ⟨by rw [Y.out]; have := HQ.out; simp [this], rfl⟩

/-- What is told of a literal. -/
def valueL (vars : List UInt8) (lit : Nat) : UInt8 := if lit / 2 < vars.length ∧ (vars.getD (lit / 2) 0).toNat ≤ 2 then k1.val vars lit else 2

set_option maxRecDepth 100000 in
theorem refvalue_any (vars : List UInt8) (a : Option Addr) (n c lit : Nat) (w : World) (h : Sees w a n c (vars.map bv)) (h2 : lit < 4294967296) :
    Calls Try.prog 70 #[.slice a n c, .int .u32 lit] w fun e w' => e = .returned (bv (valueL vars lit)) ∧ w' = w := by
  have hl := h.lenMap
  have D1 : Int.tdiv (lit : Int) 2 = ((lit / 2 : Nat) : Int) := by rw [Int.tdiv_eq_ediv_of_nonneg (by omega)]; omega
  have D2 : Int.tmod (lit : Int) 2 = ((lit % 2 : Nat) : Int) := by rw [Int.tmod_eq_emod_of_nonneg (by omega)]; omega
  have hE : ∀ d m, d = lit / 2 → m = lit % 2 → valueL vars lit = if d < n ∧ (vars.getD d 0).toNat ≤ 2 then (if m = 1 then k1.nt (vars.getD d 0) else vars.getD d 0) else 2 := fun d m hd hm => by unfold valueL; rw [hl, hd, hm]; rfl
  obtain ⟨d, hd⟩ : ∃ d, d = lit / 2 := ⟨_, rfl⟩
  obtain ⟨m, hm⟩ : ∃ m, m = lit % 2 := ⟨_, rfl⟩
  have HE := Lib.hid (hE d m hd hm)
  rw [← hd] at D1
  rw [← hm] at D2
  have hd32 : d < 4294967296 := by omega
  have hm2 : m < 2 := by omega
  have U1 : IntKind.u32.wrap (d : Int) = (d : Int) := IntWalk.u32_in _ (by omega)
  have U2 : IntKind.i64.wrap (d : Int) = (d : Int) := IntWalk.i64_in _ (by omega)
  have U3 : IntKind.u32.wrap (m : Int) = (m : Int) := IntWalk.u32_in _ (by omega)
  clear hE hl hd hm
  have HS := Lib.hid h
  obtain ⟨V, hV⟩ : ∃ V, V = valueL vars lit := ⟨_, rfl⟩
  rw [← hV] at HE ⊢
  clear hV h h2 hd32
  go_enter Try.func70, Try.ntmps70
  by_cases h1 : d < n
  · obtain ⟨b, off, rfl, hbw⟩ := HS.out.addr (by omega)
    have hcx := HS.out.byte d h1
    obtain ⟨u, hu⟩ : ∃ u, u = vars.getD d 0 := ⟨_, rfl⟩
    rw [← hu] at hcx HE
    obtain ⟨x, hx⟩ : ∃ x, x = u.toNat := ⟨_, rfl⟩
    rw [← hx] at hcx HE
    have hI : (d : Int) < (n : Int) := by omega
    have hI2 : ¬ (n : Int) ≤ (d : Int) := by omega
    have HN := Lib.hid (rnot1_any x)
    by_cases h3 : x ≤ 2
    · have e3 : decide ((2 : Int) < (x : Int)) = false := by simp; omega
      have HF : Hid (V = if m = 1 then k1.nt u else u) := by show _ = _; rw [HE.out, if_pos ⟨h1, h3⟩]
      have HU := Lib.hid hx
      clear h3 HE hu hx
      by_cases h4 : m = 1
      · subst h4
        go_wp2_with fail
        refine (HN.out _).mono ?_
        rintro e w1 ⟨rfl, rfl⟩
        go_wp2
        go_ret
        exact ⟨by rw [HF.out]; simp only [if_true]; rw [bv_not, ← HU.out]; rfl, rfl⟩
      · have e1 : ((m : Int) == 1) = false := by simp; omega
        have H4 := Lib.hid h4
        clear h4 hm2
        go_wp2
        go_ret
        exact ⟨by rw [HF.out, if_neg H4.out]; show _ = Ending.returned (.int .u8 ((u.toNat : Nat) : Int)); rw [← HU.out]; rfl, rfl⟩
    · have e3 : decide ((2 : Int) < (x : Int)) = true := by simp; omega
      have HF : Hid (V = 2) := by show _ = _; rw [HE.out, if_neg (fun h => h3 h.2)]
      clear h3 HE hu hx
      go_wp2
      go_ret
      exact ⟨by rw [HF.out]; rfl, rfl⟩
  · have hI2 : (n : Int) ≤ (d : Int) := by omega
    have HF : Hid (V = 2) := by show _ = _; rw [HE.out, if_neg (fun h => h1 h.1)]
    clear h1 HE
    go_wp2
    go_ret
    exact ⟨by rw [HF.out]; rfl, rfl⟩
end Go.Proofs.Ytcoehbkjccfhlaa
/- sim.Run, by its contract. -/
namespace Go.Proofs.Ytcoehbkjccfhlaa
open Go Go.RowKit Go.Joins

theorem owns_base {w : World} {base base' sz : Nat} {e : TypeId} {v : Value} {n : Nat} {xs : List Value} (h : w.ownsRow base e sz v n xs) (hb : base' ≤ base) : w.ownsRow base' e sz v n xs := by
  refine ⟨h.1, ?_⟩
  rcases h.2 with h2 | ⟨g, cap, cur, hv, hg, r⟩
  · exact .inl h2
  · exact .inr ⟨g, cap, cur, hv, Nat.le_trans hb hg, r⟩
/-- The run, list by list. -/
def runL (c : NormC) (t : TraceC) : List (List UInt8) := (List.range t.frames.length).map (varsAt c t)
/-- What Run answers. -/
def RunPost (c : NormC) (t : TraceC) (w : World) (e : Ending) (w' : World) : Prop :=
  (fitsS c t = true → ∃ (v : Value) (ss : List Slc), e = .returned (.tuple #[v, .int .i64 0]) ∧ ss.length = t.frames.length ∧ w'.ownsRow w.heap.size 27 1 v t.frames.length (ss.map slV) ∧ (∀ j, j < t.frames.length → Row isByte w' w.heap.size 5 (slV (ss.getD j slc0)) (varsAt c t j).length ((varsAt c t j).map bv))) ∧
  (fitsS c t = false → e = .returned (.tuple #[.slice none 0 0, .int .i64 2])) ∧ Below w.heap.size w w'
end Go.Proofs.Ytcoehbkjccfhlaa
namespace Go.Proofs.Ytcoehbkjccfhlaa
open Go Go.ChangeShapes Go.WideShapes Go.ChangeAt Go.RowKit Go.WideElems Go.Deep Go.Joins

section
variable {H : Type} {enc : TypeId × Value → H} {W : World}

set_option maxRecDepth 100000 in
/-- A list of bytes, by its reading. -/
theorem open_bytes {fuel : Nat} {v : Value} {x : DataW H × List MemPlace} (h : DataW.trod enc Try.prog W 0 (fun _ => true) true fuel 27 [v] = some x) :
    ∃ a n c bs, v = .slice a n c ∧ Sees W a n c (List.map bv bs) ∧ n ≤ Rows.uptoBulk x.1 := by
  rcases open_ints Try.underlying27 Try.underlying5 (by kernel_rfl) h with ⟨hcs, hx⟩ | ⟨a, len', cap', zs, hcs, _, hl, hm, hz, hx, hcell, hwz⟩
  · cases hcs
    exact ⟨_, _, _, [], rfl, Sees.nil _ _ _ (fun _ => rfl), by omega⟩
  · cases hcs
    subst hx
    simp only [if_true] at hz
    have hbs : ((zs.take len').map fun z => UInt8.ofNat z.toNat).map bv = (zs.take len').map (Value.int .u8) := by
      rw [List.map_map]
      apply List.map_congr_left
      intro z hz'
      have hw := bounds_u8 (hwz z (List.mem_of_mem_take hz'))
      show bv (UInt8.ofNat z.toNat) = _
      unfold bv
      congr 1
      rw [UInt8.toNat_ofNat']
      omega
    have hbulk : len' ≤ Rows.uptoBulk (DataW.slice (H := H) (lits .u8 (zs.take len')) (lits .u8 (zs.drop len'))) := by
      have h2 := bulk_slice (lits (H := H) .u8 (zs.take len')) (lits .u8 (zs.drop len'))
      have h3 : (lits (H := H) .u8 (zs.take len')).length = len' := by simp [lits]; omega
      omega
    refine ⟨_, _, _, (zs.take len').map fun z => UInt8.ofNat z.toNat, rfl, ⟨by simp; omega, hl, (fun e => by cases e), fun h0 => ?_⟩, hbulk⟩
    obtain ⟨b, off, rfl, hc⟩ := ints_at hcell (by omega)
    refine ⟨b, off, rfl, World.block_lt_of_cell? W ⟨b, off + 0, none⟩ (hc 0 (by omega)), fun j hj => ?_⟩
    rw [hbs, hc j (by omega)]
    simp [List.getD, List.getElem?_eq_getElem (show j < zs.length by omega), List.getElem?_take_of_lt hj]

set_option maxRecDepth 100000 in
/-- Lists of bytes, by their reading. -/
theorem open_frames {fuel : Nat} {v : Value} {x : DataW H × List MemPlace} (h : DataW.trod enc Try.prog W 0 (fun _ => true) true fuel 28 [v] = some x) :
    ∃ a n c ss fs, v = .slice a n c ∧ SeesF W a n c ss fs ∧ n ≤ Rows.uptoBulk x.1 ∧ ∀ s ∈ ss, s.2.1 ≤ Rows.uptoBulk x.1 := by
  rcases Go.Deep.open_slice Try.underlying28 h with ⟨hcs, hx⟩ | ⟨a, len, cap, m, nf, D, Pl, hcs, _, hl, hm, hmm, hx, hi⟩
  · cases hcs
    exact ⟨none, 0, 0, [], [], rfl, ⟨Sees.nil _ _ _ (fun _ => rfl), rfl, fun k hk => absurd hk (by simp)⟩, Nat.zero_le _, by simp⟩
  · cases hcs
    have hC : Try.prog.cellsOf 27 = 1 := by kernel_rfl
    have hmc : m = cap := by rw [hmm]; simp
    subst hx
    have key : ∀ i, ∃ t : Slc × List UInt8, i < len → (W.cell? (a.add i) = some (slV t.1) ∧ Sees W t.1.1 t.1.2.1 t.1.2.2 (t.2.map bv) ∧ t.1.2.1 ≤ Rows.uptoBulk (D i)) := by
      intro i
      by_cases hil : i < len
      · obtain ⟨cs', hc, ht'⟩ := hi i (by omega)
        rw [hC] at hc
        obtain ⟨_, hcl, hat⟩ := World.cells?_some hc
        match cs', hcl with
        | [u], _ =>
          obtain ⟨a', n', c', bs, rfl, hs, hb⟩ := open_bytes ht'
          refine ⟨((a', n', c'), bs), fun _ => ⟨?_, hs, hb⟩⟩
          have h0 := hat 0 (by omega)
          rw [Nat.mul_one] at h0
          have hz : (a.add i).add 0 = a.add i := by unfold Addr.add; split <;> simp_all
          rw [hz] at h0
          simpa [slV] using h0
      · exact ⟨(slc0, []), fun h => absurd h hil⟩
    obtain ⟨F, hF⟩ : ∃ F : Nat → Slc × List UInt8, ∀ i, i < len → (W.cell? (a.add i) = some (slV (F i).1) ∧ Sees W (F i).1.1 (F i).1.2.1 (F i).1.2.2 ((F i).2.map bv) ∧ (F i).1.2.1 ≤ Rows.uptoBulk (D i)) := ⟨fun i => Classical.choose (key i), fun i => Classical.choose_spec (key i)⟩
    have hat : ∀ {α : Type} (f : Nat → α) (d : α) (k : Nat), k < len → ((List.range len).map f).getD k d = f k := fun f d k hk => by simp [List.getD, hk]
    have hbk : ∀ i, i < len → Rows.uptoBulk (D i) ≤ Rows.uptoBulk (DataW.slice ((List.range len).map D) ((List.range (m - len)).map fun j => D (len + j))) := fun i hi' => by
      have := bulk_part (show D i ∈ (List.range len).map D by simp; exact ⟨i, hi', rfl⟩)
      simp only [Rows.uptoBulk]
      omega
    refine ⟨some a, len, cap, (List.range len).map fun i => (F i).1, (List.range len).map fun i => (F i).2, rfl, ⟨⟨by simp, hl, (fun e => by cases e), fun h0 => ?_⟩, by simp, fun k hk => ?_⟩, ?_, ?_⟩
    · obtain ⟨b, off, spot⟩ := a
      have h00 := (hF 0 h0).1
      have hspot : spot = none := by simpa [Addr.add] using World.cell?_spot h00
      subst hspot
      have hadd : ∀ j, (⟨b, off, none⟩ : Addr).add j = ⟨b, off + j, none⟩ := by intro j; unfold Addr.add; split <;> simp_all
      refine ⟨b, off, rfl, ?_, fun j hj => ?_⟩
      · rw [hadd] at h00
        exact cell_lt h00
      · rw [← hadd, (hF j hj).1]
        simp [hj]
    · have hk' : k < len := by simpa using hk
      rw [hat _ _ k hk', hat _ _ k hk']
      exact (hF k hk').2.1
    · have h2 := bulk_slice ((List.range len).map D) ((List.range (m - len)).map fun j => D (len + j))
      simpa using h2
    · intro s hs
      simp only [List.mem_map, List.mem_range] at hs
      obtain ⟨i, hi', rfl⟩ := hs
      exact Nat.le_trans (hF i hi').2.2 (hbk i hi')

set_option maxRecDepth 100000 in
/-- A trace that came in. -/
theorem open_trace {v : Value} {d : DataW H} {p : List MemPlace} {base : Nat} (hv : Value.okWide Try.prog W .any base 30 v) (h : DataW.Trod enc Try.prog W 0 (fun _ => true) true 30 v d p) :
    ∃ (t : TraceC) (s : TSlots), v = traceV t.bad s ∧ SeesTr W s t ∧ -9223372036854775808 ≤ t.bad ∧ t.bad < 9223372036854775808 ∧ s.n1 ≤ Rows.uptoBulk d ∧ s.n2 ≤ Rows.uptoBulk d ∧ ∀ x ∈ s.ss, x.2.1 ≤ Rows.uptoBulk d := by
  obtain ⟨cs, rfl, hsz⟩ := okWide_struct Try.underlying30 hv
  have hC : Try.prog.cellsOf 30 = 3 := by kernel_rfl
  have k22 : Try.prog.cellsOf 3 = 1 := by kernel_rfl
  obtain ⟨l⟩ := cs
  match l, hsz.trans hC with
  | [v0, v1, v2], _ =>
    obtain ⟨fuel, hf⟩ := h
    obtain ⟨xs, n, _, hx, _, hlen, hg⟩ := DataW.trod_struct Try.underlying30 hf
    match xs, hlen with
    | [y0, y1, y2], _ =>
      simp only [Prod.mk.injEq] at hx
      have g0 := hg 0 _ rfl
      have g1 := hg 1 _ rfl
      have g2 := hg 2 _ rfl
      simp only [Value.cells] at g0 g1 g2
      obtain ⟨z, hz, _, hw⟩ := DataW.trod_int Try.underlying3 g0
      obtain ⟨a1, n1, c1, l1, e1, s1, b1⟩ := open_bytes (v := v1) g1
      obtain ⟨a2, n2, c2, ss, fs, e2, s2, b2, q2⟩ := open_frames (v := v2) g2
      subst e1; subst e2
      have hz2 : List.take (Try.prog.cellsOf 3) [v0, .slice a1 n1 c1, .slice a2 n2 c2] = [.int .i64 z] := hz
      have hv0 : v0 = .int .i64 z := by rw [k22] at hz2; simpa using hz2
      have hbz := bounds_i64 hw
      have hd : d = .agg [y0.1, y1.1, y2.1] := by simpa using hx.1
      have hbk : ∀ y ∈ [y0.1, y1.1, y2.1], Rows.uptoBulk y ≤ Rows.uptoBulk d := fun y hy => by
        have := bulk_part hy
        rw [hd]
        simp only [Rows.uptoBulk]
        omega
      refine ⟨⟨z, l1, fs⟩, ⟨a1, n1, c1, a2, n2, c2, ss⟩, ?_, ⟨s1, s2⟩, by simp only; omega, by simp only; omega, Nat.le_trans b1 (hbk _ (by simp)), Nat.le_trans b2 (hbk _ (by simp)), fun x hx' => Nat.le_trans (q2 x hx') (hbk _ (by simp))⟩
      unfold traceV
      rw [hv0]
end
end Go.Proofs.Ytcoehbkjccfhlaa
