/- A list of acts that came in. -/
import Derived.Test.YthedgbdnidghnaaQuPure
import Derived.Test.YthedgbdnidghnaaQuPlays
import Derived.Test.YthedgbdnidghnaaRows
import Derived.ArgAppend
import Derived.BigQuiet
import Derived.ChangeSame
import Derived.Deep.AppendLies
import Derived.Deep.CutRange
import Derived.Deep.DeepHandedRow
import Derived.Deep.Fields
import Derived.Deep.QuietTactic
import Derived.Deep.RegionHeld3
import Derived.Deep.RegionLaw
import Derived.Deep.RegionWith
import Derived.Deep.Slices
import Derived.KernelRfl
import Derived.Laws.EntriesVeiled
import Derived.Laws.Tables
import Derived.Lib.ConvBytes
import Derived.Lib.Hide
import Derived.Lib.LaidTab
import Derived.Lib.SlBytesRow
import Derived.Lib.SmallJoins
import Derived.Maps.AppendAt
import Derived.OpenShut
import Derived.OrdersHeld
import Derived.ProofKit
import Derived.Shelf.Bytes.SlSmallAll
import Derived.Stop.LaidErr
import Derived.WalkKit
import Derived.WalkLawsBesides
import Derived.WalkSpells
namespace Go.Proofs.Ythedgbdnidghnaa
open Go Go.ChangeShapes Go.WideShapes Go.ChangeAt Go.RowKit Go.WideElems Go.Deep Go.Joins

section
variable {H : Type} {enc : TypeId × Value → H} {W : World}
/-- The kinds of an act's three cells. -/
def actK (j : Nat) : IntKind := if j = 2 then .u16 else .i64
set_option maxRecDepth 100000 in
theorem act_fields : ∃ fs : Array Field, Try.prog.underlying 34 = some (.struct fs) ∧ fs.size = 3 ∧ ∀ j, j < 3 → ∃ f, fs[j]? = some f ∧ f.offset = j ∧ Try.prog.cellsOf f.type = 1 ∧ Try.prog.underlying f.type = some (.int (actK j)) := by
  refine ⟨_, Try.underlying34, by kernel_rfl, fun j hj => ?_⟩
  rcases (show j = 0 ∨ j = 1 ∨ j = 2 by omega) with rfl | rfl | rfl <;> exact ⟨_, rfl, rfl, by kernel_rfl, by kernel_rfl⟩

set_option maxRecDepth 100000 in
theorem open_acts {v : Value} {d : DataW H} {p : List MemPlace} {base : Nat} (hv : Value.okWide Try.prog W .any base 22 v)
    (h0 : DataW.Trod enc Try.prog W 0 (fun _ => true) true 22 v d p) : ∃ a n c, v = .slice a n c ∧ SeesActs W a n := by
  obtain ⟨a0, n0, c0, rfl⟩ := okWide_slice Try.underlying22 hv
  obtain ⟨fuel, h⟩ := h0
  obtain ⟨fs, he, h3, hfs⟩ := act_fields
  have hC : Try.prog.cellsOf 34 = 3 := by kernel_rfl
  refine ⟨a0, n0, c0, rfl, fun hpos => ?_⟩
  rcases Go.Deep.open_slice Try.underlying22 h with ⟨hcs, hx⟩ | ⟨a, len, cap, m, nf, D, Pl, hcs, _, hl, hm, hmm, hx, hi⟩
  · simp [Value.cells] at hcs; omega
  · simp [Value.cells] at hcs
    obtain ⟨rfl, rfl, rfl⟩ := hcs
    have hmc : m = _ := hmm
    simp at hmc
    have key : ∀ i, i < n0 → ∀ j, j < 3 → ∃ z : Int, W.cell? (a.add (i * 3 + j)) = some (.int (actK j) z) ∧ (Lit.int (actK j) z).wf = true := by
      intro i hil j hj
      obtain ⟨cs', hc, ht'⟩ := hi i (by omega)
      rw [hC] at hc
      obtain ⟨_, hcl, hat⟩ := World.cells?_some hc
      obtain ⟨xs, n', _, _, _, hxl, hg⟩ := DataW.trod_struct he ht'
      obtain ⟨f, hf, ho, hk, hu⟩ := hfs j hj
      have h1 := hg j f hf
      rw [ho, hk, List.getElem?_eq_getElem (by omega)] at h1
      obtain ⟨z, hz, _, hw⟩ := DataW.trod_int hu h1
      refine ⟨z, ?_, hw⟩
      have hadd : a.add (i * 3 + j) = (a.add (i * 3)).add j := by
        first
          | exact (Go.Deep.add_add _ _ _).symm
          | exact Go.Deep.add_add _ _ _
      have hd : (cs'.drop j).take 1 = [cs'[j]'(by omega)] := by rw [List.drop_eq_getElem_cons (by omega)]; rfl
      rw [hd] at hz
      have hz' : cs'[j]'(by omega) = .int (actK j) z := by simpa using hz
      rw [hadd, hat j hj, List.getElem?_eq_getElem (by omega), hz']
    obtain ⟨b, off, spot⟩ := a
    obtain ⟨z0, h00, _⟩ := key 0 hpos 0 (by omega)
    have hspot : spot = none := by simpa [Addr.add] using World.cell?_spot h00
    subst hspot
    have hadd : ∀ j, (⟨b, off, none⟩ : Addr).add j = ⟨b, off + j, none⟩ := by intro j; unfold Addr.add; split <;> simp_all
    refine ⟨b, off, rfl, ?_, fun i hil => ?_⟩
    · rw [hadd] at h00
      exact World.block_lt_of_cell? W _ h00
    · obtain ⟨x0, g0, _⟩ := key i hil 0 (by omega)
      obtain ⟨x1, g1, _⟩ := key i hil 1 (by omega)
      obtain ⟨x2, g2, w2⟩ := key i hil 2 (by omega)
      rw [hadd] at g0 g1 g2
      have hb := bounds_u16 (show (Lit.int .u16 x2).wf = true from w2)
      refine ⟨x0, x1, x2.toNat, by omega, g0, g1, ?_⟩
      rw [show ((x2.toNat : Nat) : Int) = x2 by omega]
      exact g2
end
end Go.Proofs.Ythedgbdnidghnaa
