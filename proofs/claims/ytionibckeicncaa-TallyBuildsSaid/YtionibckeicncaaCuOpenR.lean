/- A list of lists of ints that came in, and its reach: no list of more than 2^47 bytes. -/
import Derived.Test.YtionibckeicncaaLib
import Derived.Test.YtionibckeicncaaCuInts
import Derived.Test.YtionibckeicncaaCuHolds
import Derived.Test.YtionibckeicncaaRows
import Derived.BigQuiet
import Derived.ChangeSame
import Derived.Deep.AppendLies
import Derived.Deep.DeepHandedRow
import Derived.Deep.Fields
import Derived.Deep.QuietTactic
import Derived.Deep.RegionLaw
import Derived.Deep.RegionWith
import Derived.Deep.Slices
import Derived.KernelRfl
import Derived.Laws.EntriesVeiled
import Derived.Lib.ConvBytes
import Derived.Lib.Hide
import Derived.Lib.LaidTab
import Derived.Lib.SlBytesRow
import Derived.Lib.SmallJoins
import Derived.OpenShut
import Derived.ProofKit
import Derived.Shelf.Bytes.SlSmallAll
import Derived.SizedLaws
import Derived.Stop.LaidErr
import Derived.WalkKit
import Derived.WalkLawsBesides
import Derived.WalkSpells
namespace Go.Proofs.Ytionibckeicncaa
open Go Go.ChangeShapes Go.WideShapes Go.ChangeAt Go.RowKit Go.WideElems Go.Joins

section
variable {H : Type} {enc : TypeId × Value → H} {W : World}
theorem bytes_int : Try.prog.bytesOf 3 = 8 := by kernel_rfl
theorem weightsAll_in {P : Program} {e : TypeId} : ∀ {l : List (DataW H)} {d : DataW H}, d ∈ l → ∀ n ∈ d.weights P e, n ∈ DataW.weightsAll P e l
  | x :: r, d, hd, n, hn => by
    simp only [DataW.weightsAll, List.mem_append]
    rcases List.mem_cons.1 hd with rfl | h
    · exact .inl hn
    · exact .inr (weightsAll_in h n hn)

set_option maxRecDepth 100000 in
/-- A list of ints, by its reading. -/
theorem open_zsR {fuel : Nat} {v : Value} {x : DataW H × List MemPlace} (h : DataW.trod enc Try.prog W 0 (fun _ => true) true fuel 22 [v] = some x) (hw : ∀ m ∈ x.1.weights Try.prog 22, m ≤ reachBytes) :
    ∃ a n c l, v = .slice a n c ∧ Sees W a n c (zvs l) ∧ n ≤ 17592186044416 ∧ (∀ z ∈ l, InZ z) := by
  rcases open_ints Try.underlying22 Try.underlying3 (by kernel_rfl) h with ⟨hcs, hx⟩ | ⟨a, len', cap', zs, hcs, _, hl, hm, hz, hx, hcell, hwz⟩
  · cases hcs
    exact ⟨_, _, _, [], rfl, Sees.nil _ _ _ (fun _ => rfl), by omega, by simp⟩
  · cases hcs
    simp only [if_true] at hz
    subst hx
    have hmm : len' ≤ 17592186044416 := by
      have h2 := hw (((lits (H := H) .i64 (zs.take len')).length + (lits (H := H) .i64 (zs.drop len')).length) * Try.prog.bytesOf 3) (by simp [DataW.weights, Try.underlying22])
      have h3 : (lits (H := H) .i64 (zs.take len')).length = len' := by simp [lits]; omega
      rw [h3, bytes_int] at h2
      have : reachBytes = 140737488351232 := rfl
      omega
    refine ⟨_, _, _, zs.take len', rfl, ⟨by rw [zvs_len]; simp; omega, hl, (fun e => by cases e), fun h0 => ?_⟩, hmm, fun z hz' => ?_⟩
    · obtain ⟨b, off, rfl, hc⟩ := ints_at hcell (by omega)
      refine ⟨b, off, rfl, World.block_lt_of_cell? W ⟨b, off + 0, none⟩ (hc 0 (by omega)), fun j hj => ?_⟩
      rw [hc j (by omega)]
      simp [zvs, List.getD, List.getElem?_eq_getElem (show j < zs.length by omega), List.getElem?_take_of_lt hj]
    · exact bounds_i64 (hwz z (List.mem_of_mem_take hz'))

set_option maxRecDepth 100000 in
/-- A [][]int that came in. -/
theorem open_zssR {v : Value} {d : DataW H} {p : List MemPlace} {base : Nat} (hv : Value.okWide Try.prog W .any base 23 v)
    (h : DataW.Trod enc Try.prog W 0 (fun _ => true) true 23 v d p) (hw : ∀ m ∈ d.weights Try.prog 23, m ≤ reachBytes) : ∃ a n c ss L, v = .slice a n c ∧ SeesZ W a n c ss L ∧ n ≤ 9223372036854775807 ∧ (∀ x ∈ L, x.length ≤ 17592186044416) ∧ AllInZ L := by
  obtain ⟨a0, len, cap, rfl⟩ := okWide_slice Try.underlying23 hv
  obtain ⟨fuel, hf⟩ := h
  rcases Go.Deep.open_slice Try.underlying23 hf with ⟨hcs, hx⟩ | ⟨a, len', cap', m, nf, D, Pl, hcs, _, hl, hm, hmm, hx, hi⟩
  · simp [Value.cells] at hcs
    obtain ⟨rfl, rfl, rfl⟩ := hcs
    exact ⟨none, 0, 0, [], [], rfl, SeesZ.nil _, by omega, (fun c hc => by cases hc), fun c hc => by cases hc⟩
  · simp [Value.cells] at hcs
    obtain ⟨rfl, rfl, rfl⟩ := hcs
    simp only [Prod.mk.injEq] at hx
    obtain ⟨rfl, rfl⟩ := hx
    have hC : Try.prog.cellsOf 22 = 1 := by kernel_rfl
    have hmc : m = cap := by rw [hmm]; simp
    have hmx : len ≤ 9223372036854775807 := by unfold maxLen at hm; omega
    have hwD : ∀ i, i < len → ∀ k ∈ (D i).weights Try.prog 22, k ≤ reachBytes := fun i hil k hk => hw k (by
      simp only [DataW.weights, Try.underlying23, List.mem_cons, List.mem_append]
      exact .inr (.inl (weightsAll_in (show D i ∈ (List.range len).map D by simp; exact ⟨i, hil, rfl⟩) k hk)))
    have key : ∀ i, ∃ t : ZSlc × List Int, i < len → (W.cell? (a.add i) = some (zsV t.1) ∧ Sees W t.1.1 t.1.2.1 t.1.2.2 (zvs t.2) ∧ t.1.2.1 ≤ 17592186044416 ∧ ∀ z ∈ t.2, InZ z) := by
      intro i
      by_cases hil : i < len
      · obtain ⟨cs', hc, ht'⟩ := hi i (by omega)
        rw [hC] at hc
        obtain ⟨_, hcl, hat⟩ := World.cells?_some hc
        match cs', hcl with
        | [u], _ =>
          obtain ⟨a', n', c', bs, rfl, hs, hb⟩ := open_zsR ht' (hwD i hil)
          refine ⟨((a', n', c'), bs), fun _ => ⟨?_, hs, hb⟩⟩
          have h0 := hat 0 (by omega)
          rw [Nat.mul_one] at h0
          have hz : (a.add i).add 0 = a.add i := by unfold Addr.add; split <;> simp_all
          rw [hz] at h0
          simpa [zsV] using h0
      · exact ⟨(zs0, []), fun h => absurd h hil⟩
    obtain ⟨F, hF⟩ : ∃ F : Nat → ZSlc × List Int, ∀ i, i < len → (W.cell? (a.add i) = some (zsV (F i).1) ∧ Sees W (F i).1.1 (F i).1.2.1 (F i).1.2.2 (zvs (F i).2) ∧ (F i).1.2.1 ≤ 17592186044416 ∧ ∀ z ∈ (F i).2, InZ z) := ⟨fun i => Classical.choose (key i), fun i => Classical.choose_spec (key i)⟩
    have hat : ∀ {α : Type} (f : Nat → α) (d : α) (k : Nat), k < len → ((List.range len).map f).getD k d = f k := fun f d k hk => by simp [List.getD, hk]
    refine ⟨some a, len, cap, (List.range len).map fun i => (F i).1, (List.range len).map fun i => (F i).2, rfl, ⟨⟨by simp, hl, (fun e => by cases e), fun h0 => ?_⟩, by simp, fun k hk => ?_⟩, hmx, fun s hs => ?_, fun s hs => ?_⟩
    · obtain ⟨b, off, spot⟩ := a
      have h00 := (hF 0 h0).1
      have hspot : spot = none := by simpa [Addr.add] using World.cell?_spot h00
      subst hspot
      have hadd : ∀ j, (⟨b, off, none⟩ : Addr).add j = ⟨b, off + j, none⟩ := by intro j; unfold Addr.add; split <;> simp_all
      refine ⟨b, off, rfl, ?_, fun j hj => ?_⟩
      · rw [hadd] at h00
        exact World.block_lt_of_cell? W _ h00
      · rw [← hadd, (hF j hj).1]
        simp [hj]
    · have hk' : k < len := by simpa using hk
      rw [hat _ _ k hk', hat _ _ k hk']
      exact (hF k hk').2.1
    · obtain ⟨i, hi', rfl⟩ := List.mem_map.1 hs
      have := hF i (List.mem_range.1 hi')
      rw [this.2.1.zlen]
      exact this.2.2.1
    · obtain ⟨i, hi', rfl⟩ := List.mem_map.1 hs
      exact (hF i (List.mem_range.1 hi')).2.2.2

end
end Go.Proofs.Ytionibckeicncaa
