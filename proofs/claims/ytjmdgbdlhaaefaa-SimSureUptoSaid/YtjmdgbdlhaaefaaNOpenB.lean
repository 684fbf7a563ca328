/- A list of bools as an argument. -/
import Derived.Test.YtjmdgbdlhaaefaaLib
import Derived.Test.YtjmdgbdlhaaefaaRawMay
import Derived.Test.YtjmdgbdlhaaefaaPost
import Derived.Test.YtjmdgbdlhaaefaaRows
import Derived.BigQuiet
import Derived.ChangeSame
import Derived.Deep.AppendLies
import Derived.Deep.DeepHandedRow
import Derived.Deep.Fields
import Derived.Deep.QuietTactic
import Derived.Deep.RegionLaw
import Derived.Deep.RegionWith
import Derived.Deep.Slices
import Derived.KernelRfl
import Derived.Laws.EntriesVeiled
import Derived.Lib.ConvBytes
import Derived.Lib.Hide
import Derived.Lib.LaidTab
import Derived.Lib.SlBytesRow
import Derived.Lib.SmallJoins
import Derived.OpenShut
import Derived.ProofKit
import Derived.Shelf.Bytes.SlSmallAll
import Derived.Stop.LaidErr
import Derived.WalkKit
import Derived.WalkLawsBesides
import Derived.WalkSpells
namespace Go.Proofs.Ytjmdgbdlhaaefaa
open Go Go.RowKit Go.Joins Go.ChangeShapes Go.WideShapes Go.ChangeAt

section
variable {H : Type} {enc : TypeId × Value → H} {W : World}
set_option maxRecDepth 100000 in
theorem open_bools {v : Value} {d : DataW H} {p : List MemPlace} {base : Nat} (hv : Value.okWide Try.prog W .any base 57 v)
    (h : DataW.Trod enc Try.prog W 0 (fun _ => true) true 57 v d p) : ∃ a n c bs, v = .slice a n c ∧ Sees W a n c (List.map Value.bool bs) ∧ n ≤ Rows.uptoBulk d := by
  obtain ⟨a0, len, cap, rfl⟩ := okWide_slice Try.underlying57 hv
  obtain ⟨fuel, hf⟩ := h
  rcases Go.Deep.open_slice1 Try.underlying57 (by kernel_rfl) hf with ⟨hcs, hx⟩ | ⟨a, len', cap', m, nf, V, D, Pl, hcs, _, hl, hm, hmm, hx, hi⟩
  · simp [Value.cells] at hcs
    obtain ⟨rfl, rfl, rfl⟩ := hcs
    exact ⟨_, _, _, [], rfl, Sees.nil _ _ _ (fun _ => rfl), by omega⟩
  · simp [Value.cells] at hcs
    obtain ⟨rfl, rfl, rfl⟩ := hcs
    simp only [Prod.mk.injEq] at hx
    obtain ⟨rfl, rfl⟩ := hx
    have hmc : m = cap := by rw [hmm]; simp
    have key : ∀ i, i < len → ∃ b : Bool, W.cell? (a.add i) = some (.bool b) := fun i hil => by
      obtain ⟨h1, h2⟩ := hi i (by omega)
      obtain ⟨b, hb, _⟩ := DataW.trod_bool Try.underlying4 h2
      have : V i = .bool b := by simpa using hb
      exact ⟨b, by rw [h1, this]⟩
    have hbulk : len ≤ Rows.uptoBulk (DataW.slice (H := H) ((List.range len).map D) ((List.range (m - len)).map fun j => D (len + j))) := by
      have h2 := bulk_slice ((List.range len).map D) ((List.range (m - len)).map fun j => D (len + j))
      simpa using h2
    obtain ⟨bs, hb0, hbk⟩ : ∃ bs : List Bool, bs.length = len ∧ ∀ k, k < len → W.cell? (a.add k) = some (.bool (bs.getD k false)) := by
      refine ⟨(List.range len).map fun i => if hi : i < len then Classical.choose (key i hi) else false, by simp, fun k hk => ?_⟩
      have hs := Classical.choose_spec (key k hk)
      rw [hs]
      simp [List.getD, hk]
    refine ⟨_, _, _, bs, rfl, ⟨by simp [hb0], hl, (fun e => by cases e), fun h0 => ?_⟩, hbulk⟩
    obtain ⟨b, off, spot⟩ := a
    have h00 := hbk 0 h0
    have hspot : spot = none := by simpa [Addr.add] using World.cell?_spot h00
    subst hspot
    have hadd : ∀ j, (⟨b, off, none⟩ : Addr).add j = ⟨b, off + j, none⟩ := by intro j; unfold Addr.add; split <;> simp_all
    refine ⟨b, off, rfl, ?_, fun j hj => ?_⟩
    · rw [hadd] at h00
      exact cell_lt h00
    · rw [← hadd, hbk j hj]
      simp [List.getD, List.getElem?_eq_getElem (show j < bs.length by omega)]
end
end Go.Proofs.Ytjmdgbdlhaaefaa
