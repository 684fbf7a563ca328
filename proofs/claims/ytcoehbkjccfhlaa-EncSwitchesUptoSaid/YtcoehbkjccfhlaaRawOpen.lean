/- A raw circuit that came in: its lists are slices that read as numbers. -/
import Derived.Test.YtcoehbkjccfhlaaLib
import Derived.Test.YtcoehbkjccfhlaaNBase
import Derived.Test.YtcoehbkjccfhlaaRawMay
import Derived.Test.YtcoehbkjccfhlaaPost
import Derived.Test.YtcoehbkjccfhlaaRows
import Derived.BigQuiet
import Derived.ChangeSame
import Derived.Deep.AppendLies
import Derived.Deep.DeepHandedRow
import Derived.Deep.Fields
import Derived.Deep.QuietTactic
import Derived.Deep.RegionLaw
import Derived.Deep.RegionWith
import Derived.Deep.Slices
import Derived.KernelRfl
import Derived.Laws.EntriesVeiled
import Derived.Lib.ConvBytes
import Derived.Lib.Hide
import Derived.Lib.LaidTab
import Derived.Lib.SlBytesRow
import Derived.Lib.SmallJoins
import Derived.OpenShut
import Derived.ProofKit
import Derived.Shelf.Bytes.SlSmallAll
import Derived.Stop.LaidErr
import Derived.WalkKit
import Derived.WalkLawsBesides
import Derived.WalkSpells
namespace Go.Proofs.Ytcoehbkjccfhlaa
open Go Go.ChangeShapes Go.WideShapes Go.ChangeAt Go.RowKit Go.WideElems Go.Deep Go.Joins

section
variable {H : Type} {enc : TypeId × Value → H} {W : World}

set_option maxRecDepth 100000 in
/-- A list of numbers, by its reading. -/
theorem open_nums {fuel : Nat} {v : Value} {x : DataW H × List MemPlace} (h : DataW.trod enc Try.prog W 0 (fun _ => true) true fuel 24 [v] = some x) :
    ∃ a n c xs, v = .slice a n c ∧ Sees W a n c (List.map nv32 xs) ∧ n ≤ Rows.uptoBulk x.1 ∧ ∀ y ∈ xs, y < 4294967296 := by
  rcases open_ints Try.underlying24 Try.underlying31 (by kernel_rfl) h with ⟨hcs, hx⟩ | ⟨a, len', cap', zs, hcs, _, hl, hm, hz, hx, hcell, hwz⟩
  · cases hcs
    exact ⟨_, _, _, [], rfl, Sees.nil _ _ _ (fun _ => rfl), by omega, by simp⟩
  · cases hcs
    subst hx
    simp only [if_true] at hz
    have hbs : ((zs.take len').map fun z => z.toNat).map nv32 = (zs.take len').map (Value.int .u32) := by
      rw [List.map_map]
      apply List.map_congr_left
      intro z hz'
      have hw := bounds_u32 (hwz z (List.mem_of_mem_take hz'))
      show nv32 z.toNat = _
      unfold nv32
      congr 1
      omega
    have hbulk : len' ≤ Rows.uptoBulk (DataW.slice (H := H) (lits .u32 (zs.take len')) (lits .u32 (zs.drop len'))) := by
      have h2 := bulk_slice (lits (H := H) .u32 (zs.take len')) (lits .u32 (zs.drop len'))
      have h3 : (lits (H := H) .u32 (zs.take len')).length = len' := by simp [lits]; omega
      omega
    refine ⟨_, _, _, (zs.take len').map fun z => z.toNat, rfl, ⟨by simp; omega, hl, (fun e => by cases e), fun h0 => ?_⟩, hbulk, ?_⟩
    · obtain ⟨b, off, rfl, hc⟩ := ints_at hcell (by omega)
      refine ⟨b, off, rfl, World.block_lt_of_cell? W ⟨b, off + 0, none⟩ (hc 0 (by omega)), fun j hj => ?_⟩
      rw [hbs, hc j (by omega)]
      simp [List.getD, List.getElem?_eq_getElem (show j < zs.length by omega), List.getElem?_take_of_lt hj]
    · intro y hy
      obtain ⟨z, hz', rfl⟩ := List.mem_map.1 hy
      have hw := bounds_u32 (hwz z (List.mem_of_mem_take hz'))
      omega

/-- A list of latches or gates, by its reading. -/
theorem open_tris {tS tE : TypeId} {fs : Array Field} (ht : Try.prog.underlying tS = some (.slice tE)) (he : Try.prog.underlying tE = some (.struct fs)) (hC : Try.prog.cellsOf tE = 3)
    (hfs : ∀ j, j < 3 → ∃ f, fs[j]? = some f ∧ f.offset = j ∧ Try.prog.cellsOf f.type = 1 ∧ Try.prog.underlying f.type = some (.int .u32)) (h3 : fs.size = 3)
    {fuel : Nat} {v : Value} {x : DataW H × List MemPlace} (h : DataW.trod enc Try.prog W 0 (fun _ => true) true fuel tS [v] = some x) :
    ∃ a n c l, v = .slice a n c ∧ Sees3 W a n c l ∧ n ≤ Rows.uptoBulk x.1 := by
  rcases Go.Deep.open_slice ht h with ⟨hcs, hx⟩ | ⟨a, len, cap, m, nf, D, Pl, hcs, _, hl, hm, hmm, hx, hi⟩
  · cases hcs
    exact ⟨none, 0, 0, [], rfl, Sees3.nil W, Nat.zero_le _⟩
  · cases hcs
    have hmc : m = cap := by rw [hmm]; simp
    have key : ∀ i, ∃ t : Tri, i < len → (W.cell? (a.add (3 * i)) = some (.int .u32 (t.1 : Nat)) ∧ W.cell? (a.add (3 * i + 1)) = some (.int .u32 (t.2.1 : Nat)) ∧ W.cell? (a.add (3 * i + 2)) = some (.int .u32 (t.2.2 : Nat))) := by
      intro i
      by_cases hil : i < len
      · obtain ⟨cs', hc, ht'⟩ := hi i (by omega)
        rw [hC] at hc
        obtain ⟨_, hcl, hat⟩ := World.cells?_some hc
        obtain ⟨xs, n', _, _, _, hxl, hg⟩ := DataW.trod_struct he ht'
        have one : ∀ j, j < 3 → ∃ z : Nat, W.cell? (a.add (3 * i + j)) = some (.int .u32 (z : Int)) := by
          intro j hj
          obtain ⟨f, hf, ho, hk, hu⟩ := hfs j hj
          have h1 := hg j f hf
          rw [ho, hk, List.getElem?_eq_getElem (by omega)] at h1
          obtain ⟨z, hz, _, hw⟩ := DataW.trod_int hu h1
          have hb := bounds_u32 hw
          refine ⟨z.toNat, ?_⟩
          have hadd : a.add (3 * i + j) = (a.add (i * 3)).add j := by
            rw [Nat.mul_comm 3 i]
            first
              | exact (Go.Deep.add_add _ _ _).symm
              | exact Go.Deep.add_add _ _ _
          have hd : (cs'.drop j).take 1 = [cs'[j]'(by omega)] := by rw [List.drop_eq_getElem_cons (by omega)]; rfl
          rw [hd] at hz
          have hz' : cs'[j]'(by omega) = .int .u32 z := by simpa using hz
          have ez : ((z.toNat : Nat) : Int) = z := by omega
          rw [hadd, hat j hj, List.getElem?_eq_getElem (by omega), hz', ez]
        obtain ⟨z0, q0⟩ := one 0 (by omega)
        obtain ⟨z1, q1⟩ := one 1 (by omega)
        obtain ⟨z2, q2⟩ := one 2 (by omega)
        exact ⟨(z0, z1, z2), fun _ => ⟨q0, q1, q2⟩⟩
      · exact ⟨(0, 0, 0), fun h => absurd h hil⟩
    obtain ⟨l, hl0, hlk⟩ : ∃ l : List Tri, l.length = len ∧ ∀ k, k < len → (W.cell? (a.add (3 * k)) = some (nv32 (l.getD k (0, 0, 0)).1) ∧ W.cell? (a.add (3 * k + 1)) = some (nv32 (l.getD k (0, 0, 0)).2.1) ∧ W.cell? (a.add (3 * k + 2)) = some (nv32 (l.getD k (0, 0, 0)).2.2)) := by
      refine ⟨(List.range len).map fun i => Classical.choose (key i), by simp, fun k hk => ?_⟩
      have hs := Classical.choose_spec (key k) hk
      have e : ((List.range len).map fun i => Classical.choose (key i)).getD k (0, 0, 0) = Classical.choose (key k) := by
        simp [List.getD, hk]
      rw [e]
      exact hs
    have hflat : ∀ j, j < 3 * len → W.cell? (a.add j) = (triCs l)[j]? := by
      intro j hj
      have hk : j / 3 < len := by omega
      have ht3 := triCs_at l (j / 3) (0, 0, 0) (by omega)
      have hc3 := hlk (j / 3) hk
      have hr : j = 3 * (j / 3) ∨ j = 3 * (j / 3) + 1 ∨ j = 3 * (j / 3) + 2 := by omega
      rcases hr with e | e | e
      · rw [e, ht3.1]; rw [← e]; rw [← e] at hc3; exact hc3.1
      · rw [e, ht3.2.1]; rw [← e]; have := hc3.2.1; rw [← e] at this; exact this
      · rw [e, ht3.2.2]; rw [← e]; have := hc3.2.2; rw [← e] at this; exact this
    subst hx
    refine ⟨some a, len, cap, l, rfl, ⟨hl0, hl, ⟨by rw [triCs_len]; omega, by omega, (fun e => by cases e), fun h0 => ?_⟩⟩, ?_⟩
    · obtain ⟨b, off, spot⟩ := a
      have h00 := hflat 0 h0
      have hsome : (triCs l)[0]? = some (nv32 (l.getD 0 (0, 0, 0)).1) := (triCs_at l 0 (0, 0, 0) (by omega)).1
      rw [hsome] at h00
      have hspot : spot = none := by simpa [Addr.add] using World.cell?_spot h00
      subst hspot
      have hadd : ∀ j, (⟨b, off, none⟩ : Addr).add j = ⟨b, off + j, none⟩ := by intro j; unfold Addr.add; split <;> simp_all
      refine ⟨b, off, rfl, ?_, fun j hj => ?_⟩
      · rw [hadd] at h00
        exact cell_lt h00
      · rw [← hadd]; exact hflat j hj
    · have h2 := bulk_slice ((List.range len).map D) ((List.range (m - len)).map fun j => D (len + j))
      simpa using h2

end
end Go.Proofs.Ytcoehbkjccfhlaa
