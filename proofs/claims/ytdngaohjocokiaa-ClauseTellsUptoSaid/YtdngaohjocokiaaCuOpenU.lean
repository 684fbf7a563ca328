/- A list of lists of ints that came in, and its bulk. -/
import Derived.Test.YtdngaohjocokiaaLib
import Derived.Test.YtdngaohjocokiaaPost
import Derived.Test.YtdngaohjocokiaaCuInts
import Derived.Test.YtdngaohjocokiaaCuAllP
import Derived.Test.YtdngaohjocokiaaCuHolds
import Derived.Test.YtdngaohjocokiaaRows
import Derived.Test.YtdngaohjocokiaaShelf
import Derived.BigQuiet
import Derived.ChangeSame
import Derived.Deep.AppendLies
import Derived.Deep.DeepHandedRow
import Derived.Deep.Fields
import Derived.Deep.QuietTactic
import Derived.Deep.RegionLaw
import Derived.Deep.RegionWith
import Derived.Deep.Slices
import Derived.KernelRfl
import Derived.Laws.CopyOwn
import Derived.Laws.EntriesVeiled
import Derived.Lib.ConvBytes
import Derived.Lib.Hide
import Derived.Lib.LaidTab
import Derived.Lib.SlBytesRow
import Derived.Lib.SlicesCompact
import Derived.Lib.SmallJoins
import Derived.OpenShut
import Derived.ProofKit
import Derived.Shelf.Bytes.SlSmallAll
import Derived.Sort.Statements
import Derived.Stop.LaidErr
import Derived.WalkKit
import Derived.WalkLawsBesides
import Derived.WalkSpells
namespace Go.Proofs.Ytdngaohjocokiaa
open Go Go.ChangeShapes Go.WideShapes Go.ChangeAt Go.RowKit Go.WideElems Go.Joins

section
variable {H : Type} {enc : TypeId × Value → H} {W : World}
theorem total_bulk (F : Nat → List Int) (D : Nat → DataW H) : ∀ l : List Nat, (∀ i ∈ l, (F i).length ≤ Rows.uptoBulk (D i)) → total (l.map F) ≤ Rows.uptoBulkAll (l.map D)
  | [], _ => Nat.zero_le _
  | i :: l, h => by
    have h1 := total_bulk F D l (fun j hj => h j (by simp [hj]))
    have h2 := h i (by simp)
    simp only [total, List.map_cons, List.sum_cons, Rows.uptoBulkAll] at h1 ⊢
    omega

set_option maxRecDepth 100000 in
/-- A list of ints, by its reading. -/
theorem open_zsU {fuel : Nat} {v : Value} {x : DataW H × List MemPlace} (h : DataW.trod enc Try.prog W 0 (fun _ => true) true fuel 23 [v] = some x) :
    ∃ a n c l, v = .slice a n c ∧ Sees W a n c (zvs l) ∧ n ≤ Rows.uptoBulk x.1 ∧ (∀ z ∈ l, InZ z) := by
  rcases open_ints Try.underlying23 Try.underlying3 (by kernel_rfl) h with ⟨hcs, hx⟩ | ⟨a, len', cap', zs, hcs, _, hl, hm, hz, hx, hcell, hwz⟩
  · cases hcs
    exact ⟨_, _, _, [], rfl, Sees.nil _ _ _ (fun _ => rfl), by omega, by simp⟩
  · cases hcs
    simp only [if_true] at hz
    subst hx
    have hmm : len' ≤ Rows.uptoBulk (DataW.slice (H := H) (lits .i64 (zs.take len')) (lits .i64 (zs.drop len'))) := by
      have h2 := bulk_slice (lits (H := H) .i64 (zs.take len')) (lits .i64 (zs.drop len'))
      have h3 : (lits (H := H) .i64 (zs.take len')).length = len' := by simp [lits]; omega
      omega
    refine ⟨_, _, _, zs.take len', rfl, ⟨by rw [zvs_len]; simp; omega, hl, (fun e => by cases e), fun h0 => ?_⟩, hmm, fun z hz' => ?_⟩
    · obtain ⟨b, off, rfl, hc⟩ := ints_at hcell (by omega)
      refine ⟨b, off, rfl, World.block_lt_of_cell? W ⟨b, off + 0, none⟩ (hc 0 (by omega)), fun j hj => ?_⟩
      rw [hc j (by omega)]
      simp [zvs, List.getD, List.getElem?_eq_getElem (show j < zs.length by omega), List.getElem?_take_of_lt hj]
    · exact bounds_i64 (hwz z (List.mem_of_mem_take hz'))

set_option maxRecDepth 100000 in
/-- A [][]int that came in. -/
theorem open_zssU {v : Value} {d : DataW H} {p : List MemPlace} {base : Nat} (hv : Value.okWide Try.prog W .any base 22 v)
    (h : DataW.Trod enc Try.prog W 0 (fun _ => true) true 22 v d p) : ∃ a n c ss L, v = .slice a n c ∧ SeesZ W a n c ss L ∧ n ≤ Rows.uptoBulk d ∧ total L ≤ Rows.uptoBulk d ∧ AllInZ L := by
  obtain ⟨a0, len, cap, rfl⟩ := okWide_slice Try.underlying22 hv
  obtain ⟨fuel, hf⟩ := h
  rcases Go.Deep.open_slice Try.underlying22 hf with ⟨hcs, hx⟩ | ⟨a, len', cap', m, nf, D, Pl, hcs, _, hl, hm, hmm, hx, hi⟩
  · simp [Value.cells] at hcs
    obtain ⟨rfl, rfl, rfl⟩ := hcs
    exact ⟨none, 0, 0, [], [], rfl, SeesZ.nil _, Nat.zero_le _, Nat.zero_le _, fun c hc => by cases hc⟩
  · simp [Value.cells] at hcs
    obtain ⟨rfl, rfl, rfl⟩ := hcs
    simp only [Prod.mk.injEq] at hx
    obtain ⟨rfl, rfl⟩ := hx
    have hC : Try.prog.cellsOf 23 = 1 := by kernel_rfl
    have hmc : m = cap := by rw [hmm]; simp
    have hmx : len ≤ Rows.uptoBulk (DataW.slice (H := H) ((List.range len).map D) ((List.range (m - len)).map fun j => D (len + j))) := by
      have h2 := bulk_slice ((List.range len).map D) ((List.range (m - len)).map fun j => D (len + j))
      simpa using h2
    have key : ∀ i, ∃ t : ZSlc × List Int, i < len → (W.cell? (a.add i) = some (zsV t.1) ∧ Sees W t.1.1 t.1.2.1 t.1.2.2 (zvs t.2) ∧ t.1.2.1 ≤ Rows.uptoBulk (D i) ∧ ∀ z ∈ t.2, InZ z) := by
      intro i
      by_cases hil : i < len
      · obtain ⟨cs', hc, ht'⟩ := hi i (by omega)
        rw [hC] at hc
        obtain ⟨_, hcl, hat⟩ := World.cells?_some hc
        match cs', hcl with
        | [u], _ =>
          obtain ⟨a', n', c', bs, rfl, hs, hb⟩ := open_zsU ht'
          refine ⟨((a', n', c'), bs), fun _ => ⟨?_, hs, hb⟩⟩
          have h0 := hat 0 (by omega)
          rw [Nat.mul_one] at h0
          have hz : (a.add i).add 0 = a.add i := by unfold Addr.add; split <;> simp_all
          rw [hz] at h0
          simpa [zsV] using h0
      · exact ⟨(zs0, []), fun h => absurd h hil⟩
    obtain ⟨F, hF⟩ : ∃ F : Nat → ZSlc × List Int, ∀ i, i < len → (W.cell? (a.add i) = some (zsV (F i).1) ∧ Sees W (F i).1.1 (F i).1.2.1 (F i).1.2.2 (zvs (F i).2) ∧ (F i).1.2.1 ≤ Rows.uptoBulk (D i) ∧ ∀ z ∈ (F i).2, InZ z) := ⟨fun i => Classical.choose (key i), fun i => Classical.choose_spec (key i)⟩
    have hat : ∀ {α : Type} (f : Nat → α) (d : α) (k : Nat), k < len → ((List.range len).map f).getD k d = f k := fun f d k hk => by simp [List.getD, hk]
    refine ⟨some a, len, cap, (List.range len).map fun i => (F i).1, (List.range len).map fun i => (F i).2, rfl, ⟨⟨by simp, hl, (fun e => by cases e), fun h0 => ?_⟩, by simp, fun k hk => ?_⟩, hmx, ?_, fun s hs => ?_⟩
    · obtain ⟨b, off, spot⟩ := a
      have h00 := (hF 0 h0).1
      have hspot : spot = none := by simpa [Addr.add] using World.cell?_spot h00
      subst hspot
      have hadd : ∀ j, (⟨b, off, none⟩ : Addr).add j = ⟨b, off + j, none⟩ := by intro j; unfold Addr.add; split <;> simp_all
      refine ⟨b, off, rfl, ?_, fun j hj => ?_⟩
      · rw [hadd] at h00
        exact World.block_lt_of_cell? W _ h00
      · rw [← hadd, (hF j hj).1]
        simp [hj]
    · have hk' : k < len := by simpa using hk
      rw [hat _ _ k hk', hat _ _ k hk']
      exact (hF k hk').2.1
    · have h1 := total_bulk (fun i => (F i).2) D (List.range len) (fun i hi' => by
        have := hF i (List.mem_range.1 hi')
        rw [this.2.1.zlen]
        exact this.2.2.1)
      refine Nat.le_trans h1 ?_
      simp only [Rows.uptoBulk]
      omega
    · obtain ⟨i, hi', rfl⟩ := List.mem_map.1 hs
      exact (hF i (List.mem_range.1 hi')).2.2.2

end
end Go.Proofs.Ytdngaohjocokiaa
