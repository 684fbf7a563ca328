/- A list of bools as an argument. -/
import Derived.Test.YtcoehbkjccfhlaaGEncT00
import Derived.Test.YtcoehbkjccfhlaaGEncT03
import Derived.Test.YtcoehbkjccfhlaaGEncT02
import Derived.Test.YtcoehbkjccfhlaaRows
import Derived.BigQuiet
import Derived.ChangeSame
import Derived.Deep.AppendLies
import Derived.Deep.DeepHandedRow
import Derived.Deep.Fields
import Derived.Deep.QuietTactic
import Derived.Deep.RegionLaw
import Derived.Deep.RegionWith
import Derived.Deep.Slices
import Derived.KernelRfl
import Derived.Laws.EntriesVeiled
import Derived.Lib.ConvBytes
import Derived.Lib.Hide
import Derived.Lib.LaidTab
import Derived.Lib.SlBytesRow
import Derived.Lib.SmallJoins
import Derived.OpenShut
import Derived.ProofKit
import Derived.Shelf.Bytes.SlSmallAll
import Derived.Stop.LaidErr
import Derived.WalkKit
import Derived.WalkLawsBesides
import Derived.WalkSpells
/- A circuit and a trace that came in: their lists are slices that read as numbers. -/
namespace Go.Proofs.Ytcoehbkjccfhlaa
open Go Go.ChangeShapes Go.WideShapes Go.ChangeAt Go.RowKit Go.WideElems Go.Deep Go.Joins

section
variable {H : Type} {enc : TypeId × Value → H} {W : World}

set_option maxRecDepth 100000 in
/-- A list of bytes, by its reading. -/
theorem open_bytes {fuel : Nat} {v : Value} {x : DataW H × List MemPlace} (h : DataW.trod enc Try.prog W 0 (fun _ => true) true fuel 27 [v] = some x) :
    ∃ a n c bs, v = .slice a n c ∧ Sees W a n c (List.map bv bs) ∧ n ≤ Rows.uptoBulk x.1 := by
  rcases open_ints Try.underlying27 Try.underlying5 (by kernel_rfl) h with ⟨hcs, hx⟩ | ⟨a, len', cap', zs, hcs, _, hl, hm, hz, hx, hcell, hwz⟩
  · cases hcs
    exact ⟨_, _, _, [], rfl, Sees.nil _ _ _ (fun _ => rfl), by omega⟩
  · cases hcs
    subst hx
    simp only [if_true] at hz
    have hbs : ((zs.take len').map fun z => UInt8.ofNat z.toNat).map bv = (zs.take len').map (Value.int .u8) := by
      rw [List.map_map]
      apply List.map_congr_left
      intro z hz'
      have hw := bounds_u8 (hwz z (List.mem_of_mem_take hz'))
      show bv (UInt8.ofNat z.toNat) = _
      unfold bv
      congr 1
      rw [UInt8.toNat_ofNat']
      omega
    have hbulk : len' ≤ Rows.uptoBulk (DataW.slice (H := H) (lits .u8 (zs.take len')) (lits .u8 (zs.drop len'))) := by
      have h2 := bulk_slice (lits (H := H) .u8 (zs.take len')) (lits .u8 (zs.drop len'))
      have h3 : (lits (H := H) .u8 (zs.take len')).length = len' := by simp [lits]; omega
      omega
    refine ⟨_, _, _, (zs.take len').map fun z => UInt8.ofNat z.toNat, rfl, ⟨by simp; omega, hl, (fun e => by cases e), fun h0 => ?_⟩, hbulk⟩
    obtain ⟨b, off, rfl, hc⟩ := ints_at hcell (by omega)
    refine ⟨b, off, rfl, World.block_lt_of_cell? W ⟨b, off + 0, none⟩ (hc 0 (by omega)), fun j hj => ?_⟩
    rw [hbs, hc j (by omega)]
    simp [List.getD, List.getElem?_eq_getElem (show j < zs.length by omega), List.getElem?_take_of_lt hj]

set_option maxRecDepth 100000 in
/-- Lists of bytes, by their reading. -/
theorem open_frames {fuel : Nat} {v : Value} {x : DataW H × List MemPlace} (h : DataW.trod enc Try.prog W 0 (fun _ => true) true fuel 28 [v] = some x) :
    ∃ a n c ss fs, v = .slice a n c ∧ SeesF W a n c ss fs ∧ n ≤ Rows.uptoBulk x.1 ∧ ∀ s ∈ ss, s.2.1 ≤ Rows.uptoBulk x.1 := by
  rcases Go.Deep.open_slice Try.underlying28 h with ⟨hcs, hx⟩ | ⟨a, len, cap, m, nf, D, Pl, hcs, _, hl, hm, hmm, hx, hi⟩
  · cases hcs
    exact ⟨none, 0, 0, [], [], rfl, ⟨Sees.nil _ _ _ (fun _ => rfl), rfl, fun k hk => absurd hk (by simp)⟩, Nat.zero_le _, by simp⟩
  · cases hcs
    have hC : Try.prog.cellsOf 27 = 1 := by kernel_rfl
    have hmc : m = cap := by rw [hmm]; simp
    subst hx
    have key : ∀ i, ∃ t : Slc × List UInt8, i < len → (W.cell? (a.add i) = some (slV t.1) ∧ Sees W t.1.1 t.1.2.1 t.1.2.2 (t.2.map bv) ∧ t.1.2.1 ≤ Rows.uptoBulk (D i)) := by
      intro i
      by_cases hil : i < len
      · obtain ⟨cs', hc, ht'⟩ := hi i (by omega)
        rw [hC] at hc
        obtain ⟨_, hcl, hat⟩ := World.cells?_some hc
        match cs', hcl with
        | [u], _ =>
          obtain ⟨a', n', c', bs, rfl, hs, hb⟩ := open_bytes ht'
          refine ⟨((a', n', c'), bs), fun _ => ⟨?_, hs, hb⟩⟩
          have h0 := hat 0 (by omega)
          rw [Nat.mul_one] at h0
          have hz : (a.add i).add 0 = a.add i := by unfold Addr.add; split <;> simp_all
          rw [hz] at h0
          simpa [slV] using h0
      · exact ⟨(slc0, []), fun h => absurd h hil⟩
    obtain ⟨F, hF⟩ : ∃ F : Nat → Slc × List UInt8, ∀ i, i < len → (W.cell? (a.add i) = some (slV (F i).1) ∧ Sees W (F i).1.1 (F i).1.2.1 (F i).1.2.2 ((F i).2.map bv) ∧ (F i).1.2.1 ≤ Rows.uptoBulk (D i)) := ⟨fun i => Classical.choose (key i), fun i => Classical.choose_spec (key i)⟩
    have hat : ∀ {α : Type} (f : Nat → α) (d : α) (k : Nat), k < len → ((List.range len).map f).getD k d = f k := fun f d k hk => by simp [List.getD, hk]
    have hbk : ∀ i, i < len → Rows.uptoBulk (D i) ≤ Rows.uptoBulk (DataW.slice ((List.range len).map D) ((List.range (m - len)).map fun j => D (len + j))) := fun i hi' => by
      have := bulk_part (show D i ∈ (List.range len).map D by simp; exact ⟨i, hi', rfl⟩)
      simp only [Rows.uptoBulk]
      omega
    refine ⟨some a, len, cap, (List.range len).map fun i => (F i).1, (List.range len).map fun i => (F i).2, rfl, ⟨⟨by simp, hl, (fun e => by cases e), fun h0 => ?_⟩, by simp, fun k hk => ?_⟩, ?_, ?_⟩
    · obtain ⟨b, off, spot⟩ := a
      have h00 := (hF 0 h0).1
      have hspot : spot = none := by simpa [Addr.add] using World.cell?_spot h00
      subst hspot
      have hadd : ∀ j, (⟨b, off, none⟩ : Addr).add j = ⟨b, off + j, none⟩ := by intro j; unfold Addr.add; split <;> simp_all
      refine ⟨b, off, rfl, ?_, fun j hj => ?_⟩
      · rw [hadd] at h00
        exact cell_lt h00
      · rw [← hadd, (hF j hj).1]
        simp [hj]
    · have hk' : k < len := by simpa using hk
      rw [hat _ _ k hk', hat _ _ k hk']
      exact (hF k hk').2.1
    · have h2 := bulk_slice ((List.range len).map D) ((List.range (m - len)).map fun j => D (len + j))
      simpa using h2
    · intro s hs
      simp only [List.mem_map, List.mem_range] at hs
      obtain ⟨i, hi', rfl⟩ := hs
      exact Nat.le_trans (hF i hi').2.2 (hbk i hi')

set_option maxRecDepth 100000 in
/-- A trace that came in. -/
theorem open_trace {v : Value} {d : DataW H} {p : List MemPlace} {base : Nat} (hv : Value.okWide Try.prog W .any base 30 v) (h : DataW.Trod enc Try.prog W 0 (fun _ => true) true 30 v d p) :
    ∃ (t : TraceC) (s : TSlots), v = traceV t.bad s ∧ SeesTr W s t ∧ -9223372036854775808 ≤ t.bad ∧ t.bad < 9223372036854775808 ∧ s.n1 ≤ Rows.uptoBulk d ∧ s.n2 ≤ Rows.uptoBulk d ∧ ∀ x ∈ s.ss, x.2.1 ≤ Rows.uptoBulk d := by
  obtain ⟨cs, rfl, hsz⟩ := okWide_struct Try.underlying30 hv
  have hC : Try.prog.cellsOf 30 = 3 := by kernel_rfl
  have k22 : Try.prog.cellsOf 3 = 1 := by kernel_rfl
  obtain ⟨l⟩ := cs
  match l, hsz.trans hC with
  | [v0, v1, v2], _ =>
    obtain ⟨fuel, hf⟩ := h
    obtain ⟨xs, n, _, hx, _, hlen, hg⟩ := DataW.trod_struct Try.underlying30 hf
    match xs, hlen with
    | [y0, y1, y2], _ =>
      simp only [Prod.mk.injEq] at hx
      have g0 := hg 0 _ rfl
      have g1 := hg 1 _ rfl
      have g2 := hg 2 _ rfl
      simp only [Value.cells] at g0 g1 g2
      obtain ⟨z, hz, _, hw⟩ := DataW.trod_int Try.underlying3 g0
      obtain ⟨a1, n1, c1, l1, e1, s1, b1⟩ := open_bytes (v := v1) g1
      obtain ⟨a2, n2, c2, ss, fs, e2, s2, b2, q2⟩ := open_frames (v := v2) g2
      subst e1; subst e2
      have hz2 : List.take (Try.prog.cellsOf 3) [v0, .slice a1 n1 c1, .slice a2 n2 c2] = [.int .i64 z] := hz
      have hv0 : v0 = .int .i64 z := by rw [k22] at hz2; simpa using hz2
      have hbz := bounds_i64 hw
      have hd : d = .agg [y0.1, y1.1, y2.1] := by simpa using hx.1
      have hbk : ∀ y ∈ [y0.1, y1.1, y2.1], Rows.uptoBulk y ≤ Rows.uptoBulk d := fun y hy => by
        have := bulk_part hy
        rw [hd]
        simp only [Rows.uptoBulk]
        omega
      refine ⟨⟨z, l1, fs⟩, ⟨a1, n1, c1, a2, n2, c2, ss⟩, ?_, ⟨s1, s2⟩, by simp only; omega, by simp only; omega, Nat.le_trans b1 (hbk _ (by simp)), Nat.le_trans b2 (hbk _ (by simp)), fun x hx' => Nat.le_trans (q2 x hx') (hbk _ (by simp))⟩
      unfold traceV
      rw [hv0]
end
end Go.Proofs.Ytcoehbkjccfhlaa
namespace Go.Proofs.Ytcoehbkjccfhlaa
open Go Go.RowKit Go.Joins Go.ChangeShapes Go.WideShapes Go.ChangeAt

section
variable {H : Type} {enc : TypeId × Value → H} {W : World}
set_option maxRecDepth 100000 in
theorem open_bools {v : Value} {d : DataW H} {p : List MemPlace} {base : Nat} (hv : Value.okWide Try.prog W .any base 32 v)
    (h : DataW.Trod enc Try.prog W 0 (fun _ => true) true 32 v d p) : ∃ a n c bs, v = .slice a n c ∧ Sees W a n c (List.map Value.bool bs) ∧ n ≤ Rows.uptoBulk d := by
  obtain ⟨a0, len, cap, rfl⟩ := okWide_slice Try.underlying32 hv
  obtain ⟨fuel, hf⟩ := h
  rcases Go.Deep.open_slice1 Try.underlying32 (by kernel_rfl) hf with ⟨hcs, hx⟩ | ⟨a, len', cap', m, nf, V, D, Pl, hcs, _, hl, hm, hmm, hx, hi⟩
  · simp [Value.cells] at hcs
    obtain ⟨rfl, rfl, rfl⟩ := hcs
    exact ⟨_, _, _, [], rfl, Sees.nil _ _ _ (fun _ => rfl), by omega⟩
  · simp [Value.cells] at hcs
    obtain ⟨rfl, rfl, rfl⟩ := hcs
    simp only [Prod.mk.injEq] at hx
    obtain ⟨rfl, rfl⟩ := hx
    have hmc : m = cap := by rw [hmm]; simp
    have key : ∀ i, i < len → ∃ b : Bool, W.cell? (a.add i) = some (.bool b) := fun i hil => by
      obtain ⟨h1, h2⟩ := hi i (by omega)
      obtain ⟨b, hb, _⟩ := DataW.trod_bool Try.underlying4 h2
      have : V i = .bool b := by simpa using hb
      exact ⟨b, by rw [h1, this]⟩
    have hbulk : len ≤ Rows.uptoBulk (DataW.slice (H := H) ((List.range len).map D) ((List.range (m - len)).map fun j => D (len + j))) := by
      have h2 := bulk_slice ((List.range len).map D) ((List.range (m - len)).map fun j => D (len + j))
      simpa using h2
    obtain ⟨bs, hb0, hbk⟩ : ∃ bs : List Bool, bs.length = len ∧ ∀ k, k < len → W.cell? (a.add k) = some (.bool (bs.getD k false)) := by
      refine ⟨(List.range len).map fun i => if hi : i < len then Classical.choose (key i hi) else false, by simp, fun k hk => ?_⟩
      have hs := Classical.choose_spec (key k hk)
      rw [hs]
      simp [List.getD, hk]
    refine ⟨_, _, _, bs, rfl, ⟨by simp [hb0], hl, (fun e => by cases e), fun h0 => ?_⟩, hbulk⟩
    obtain ⟨b, off, spot⟩ := a
    have h00 := hbk 0 h0
    have hspot : spot = none := by simpa [Addr.add] using World.cell?_spot h00
    subst hspot
    have hadd : ∀ j, (⟨b, off, none⟩ : Addr).add j = ⟨b, off + j, none⟩ := by intro j; unfold Addr.add; split <;> simp_all
    refine ⟨b, off, rfl, ?_, fun j hj => ?_⟩
    · rw [hadd] at h00
      exact cell_lt h00
    · rw [← hadd, hbk j hj]
      simp [List.getD, List.getElem?_eq_getElem (show j < bs.length by omega)]
end
end Go.Proofs.Ytcoehbkjccfhlaa
