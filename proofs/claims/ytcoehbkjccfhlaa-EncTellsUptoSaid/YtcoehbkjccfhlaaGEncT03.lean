/- A circuit as an argument. -/
import Derived.Test.YtcoehbkjccfhlaaGEncT01
import Derived.Test.YtcoehbkjccfhlaaRows
import Derived.BigQuiet
import Derived.Deep.AppendLies
import Derived.Deep.QuietTactic
import Derived.Deep.RegionLaw
import Derived.Deep.RegionWith
import Derived.KernelRfl
import Derived.Laws.EntriesVeiled
import Derived.Lib.ConvBytes
import Derived.Lib.Hide
import Derived.Lib.SlBytesRow
import Derived.Lib.SmallJoins
import Derived.Shelf.Bytes.SlSmallAll
import Derived.WalkKit
import Derived.WalkLawsBesides
import Derived.WalkSpells
import Derived.Test.YtcoehbkjccfhlaaGEncT00
import Derived.Deep.DeepHandedRow
import Derived.Lib.LaidTab
import Derived.OpenShut
import Derived.ProofKit
import Derived.Stop.LaidErr
import Derived.ChangeSame
import Derived.Deep.Fields
import Derived.Deep.Slices
import Derived.Test.YtcoehbkjccfhlaaGEncT02
/- The numbers of a circuit's lists are of 32 bits. -/
namespace Go.Proofs.Ytcoehbkjccfhlaa
open Go Go.RowKit Go.Joins
/-- The numbers of a circuit's lists are of 32 bits, resets of 8. -/
structure Wide (c : NormC) : Prop where
  lats : ∀ p ∈ c.lats, p.1 < 4294967296 ∧ p.2 < 256
  gates : ∀ p ∈ c.gates, p.1 < 4294967296 ∧ p.2 < 4294967296
  outs : ∀ x ∈ c.outs, x < 4294967296
  bads : ∀ x ∈ c.bads, x < 4294967296
  cons : ∀ x ∈ c.cons, x < 4294967296
end Go.Proofs.Ytcoehbkjccfhlaa
/- What every law's proof ends with: the law has answered true, and old memory is as it was: so each argument reads as it did. And what a reading of an argument gives the walk. -/
namespace Go.Proofs.Ytcoehbkjccfhlaa
open Go Go.ChangeShapes Go.WideShapes Go.ChangeAt Go.RowKit Go.WideElems

theorem bulk_one {H : Type} (x : DataW H) : 1 ≤ Rows.uptoBulk x := by
  cases x with
  | lit l => cases l <;> simp [Rows.uptoBulk]
  | nil => simp [Rows.uptoBulk]
  | ptr d => simp [Rows.uptoBulk]
  | slice elems spare => simp [Rows.uptoBulk]
  | agg parts => simp [Rows.uptoBulk]
  | iface t d => simp [Rows.uptoBulk]
  | map entries => simp [Rows.uptoBulk]
  | held h => simp [Rows.uptoBulk]
theorem bulk_len {H : Type} : ∀ l : List (DataW H), l.length ≤ Rows.uptoBulkAll l
  | [] => by simp [Rows.uptoBulkAll]
  | x :: r => by
    have := bulk_one x
    have := bulk_len r
    simp only [Rows.uptoBulkAll, List.length_cons]; omega
theorem bulk_slice {H : Type} (elems spare : List (DataW H)) : elems.length ≤ Rows.uptoBulk (.slice elems spare) := by
  have := bulk_len elems
  simp only [Rows.uptoBulk]; omega
theorem bulk_part {H : Type} {d : DataW H} : ∀ {l : List (DataW H)}, d ∈ l → Rows.uptoBulk d ≤ Rows.uptoBulkAll l
  | [], h => by cases h
  | x :: r, h => by
    simp only [Rows.uptoBulkAll]
    rcases List.mem_cons.1 h with rfl | h
    · omega
    · have := bulk_part h; omega
theorem bulk_bound {H : Type} {l : List (DataW H)} (hk : Rows.uptoSmall H l = true) : Rows.uptoBulkAll l ≤ 1048576 := of_decide_eq_true hk

set_option maxRecDepth 100000 in
/-- A []byte that came in. -/
theorem open_u8s {H : Type} {enc : TypeId × Value → H} {W : World} {v : Value} {d : DataW H} {p : List MemPlace} {base : Nat} (hv : Value.okWide Try.prog W .any base 27 v)
    (h : DataW.Trod enc Try.prog W 0 (fun _ => true) true 27 v d p) : ∃ a n c bs, v = .slice a n c ∧ Sees W a n c (List.map bv bs) ∧ n ≤ Rows.uptoBulk d := by
  obtain ⟨a0, len, cap, rfl⟩ := okWide_slice Try.underlying27 hv
  obtain ⟨fuel, hf⟩ := h
  rcases open_ints Try.underlying27 Try.underlying5 (by kernel_rfl) hf with ⟨hcs, hx⟩ | ⟨a, len', cap', zs, hcs, _, hl, hm, hz, hx, hcell, hwz⟩
  · simp [Value.cells] at hcs
    obtain ⟨rfl, rfl, rfl⟩ := hcs
    exact ⟨_, _, _, [], rfl, Sees.nil _ _ _ (fun _ => rfl), by omega⟩
  · simp [Value.cells] at hcs
    obtain ⟨rfl, rfl, rfl⟩ := hcs
    simp only [Prod.mk.injEq] at hx
    obtain ⟨rfl, rfl⟩ := hx
    simp only [if_true] at hz
    have hbs : ((zs.take len).map fun z => UInt8.ofNat z.toNat).map bv = (zs.take len).map (Value.int .u8) := by
      rw [List.map_map]
      apply List.map_congr_left
      intro z hz'
      have hw := bounds_u8 (hwz z (List.mem_of_mem_take hz'))
      show bv (UInt8.ofNat z.toNat) = _
      unfold bv
      congr 1
      rw [UInt8.toNat_ofNat']
      omega
    have hbulk : len ≤ Rows.uptoBulk (DataW.slice (H := H) (lits .u8 (zs.take len)) (lits .u8 (zs.drop len))) := by
      have h2 := bulk_slice (lits (H := H) .u8 (zs.take len)) (lits .u8 (zs.drop len))
      have h3 : (lits (H := H) .u8 (zs.take len)).length = len := by simp [lits]; omega
      omega
    refine ⟨_, _, _, (zs.take len).map fun z => UInt8.ofNat z.toNat, rfl, ⟨by simp; omega, hl, (fun e => by cases e), fun h0 => ?_⟩, hbulk⟩
    obtain ⟨b, off, rfl, hc⟩ := ints_at hcell (by omega)
    refine ⟨b, off, rfl, World.block_lt_of_cell? W ⟨b, off + 0, none⟩ (hc 0 (by omega)), fun j hj => ?_⟩
    rw [hbs, hc j (by omega)]
    simp [List.getD, List.getElem?_eq_getElem (show j < zs.length by omega), List.getElem?_take_of_lt hj]

set_option maxRecDepth 100000 in
/-- A []uint32 that came in. -/
theorem open_u32s {H : Type} {enc : TypeId × Value → H} {W : World} {v : Value} {d : DataW H} {p : List MemPlace} {base : Nat} (hv : Value.okWide Try.prog W .any base 24 v)
    (h : DataW.Trod enc Try.prog W 0 (fun _ => true) true 24 v d p) : ∃ a n c xs, v = .slice a n c ∧ Sees W a n c (List.map nv32 xs) ∧ n ≤ Rows.uptoBulk d ∧ ∀ x ∈ xs, x < 4294967296 := by
  obtain ⟨a0, len, cap, rfl⟩ := okWide_slice Try.underlying24 hv
  obtain ⟨fuel, hf⟩ := h
  rcases open_ints Try.underlying24 Try.underlying31 (by kernel_rfl) hf with ⟨hcs, hx⟩ | ⟨a, len', cap', zs, hcs, _, hl, hm, hz, hx, hcell, hwz⟩
  · simp [Value.cells] at hcs
    obtain ⟨rfl, rfl, rfl⟩ := hcs
    exact ⟨_, _, _, [], rfl, Sees.nil _ _ _ (fun _ => rfl), by omega, by simp⟩
  · simp [Value.cells] at hcs
    obtain ⟨rfl, rfl, rfl⟩ := hcs
    simp only [Prod.mk.injEq] at hx
    obtain ⟨rfl, rfl⟩ := hx
    simp only [if_true] at hz
    have hbs : ((zs.take len).map fun z => z.toNat).map nv32 = (zs.take len).map (Value.int .u32) := by
      rw [List.map_map]
      apply List.map_congr_left
      intro z hz'
      have hw := bounds_u32 (hwz z (List.mem_of_mem_take hz'))
      show nv32 z.toNat = _
      unfold nv32
      congr 1
      omega
    have hbulk : len ≤ Rows.uptoBulk (DataW.slice (H := H) (lits .u32 (zs.take len)) (lits .u32 (zs.drop len))) := by
      have h2 := bulk_slice (lits (H := H) .u32 (zs.take len)) (lits .u32 (zs.drop len))
      have h3 : (lits (H := H) .u32 (zs.take len)).length = len := by simp [lits]; omega
      omega
    refine ⟨_, _, _, (zs.take len).map fun z => z.toNat, rfl, ⟨by simp; omega, hl, (fun e => by cases e), fun h0 => ?_⟩, hbulk, ?_⟩
    · obtain ⟨b, off, rfl, hc⟩ := ints_at hcell (by omega)
      refine ⟨b, off, rfl, World.block_lt_of_cell? W ⟨b, off + 0, none⟩ (hc 0 (by omega)), fun j hj => ?_⟩
      rw [hbs, hc j (by omega)]
      simp [List.getD, List.getElem?_eq_getElem (show j < zs.length by omega), List.getElem?_take_of_lt hj]
    · intro x hx
      obtain ⟨z, hz', rfl⟩ := List.mem_map.1 hx
      have hw := bounds_u32 (hwz z (List.mem_of_mem_take hz'))
      omega

theorem bulk_str {H : Type} (l : List UInt8) : Rows.uptoBulk (DataW.lit (H := H) (.string l)) = l.length + 1 := by simp [Rows.uptoBulk]
theorem str_list (s : ByteArray) : str s.data.toList = s := by simp [str]
theorem list_str (l : List UInt8) : (str l).data.toList = l := by simp [str]
end Go.Proofs.Ytcoehbkjccfhlaa
/- raw.May, by its contract. -/
namespace Go.Proofs.Ytcoehbkjccfhlaa
open Go Go.RowKit Go.Joins

theorem bcell {W w1 : World} (hb : Below W.heap.size W w1) : (∀ b o, b < W.heap.size → w1.cell? ⟨b, o, none⟩ = W.cell? ⟨b, o, none⟩) ∧ (∀ b o, b < W.heap.size → w1.frozen? ⟨b, o, none⟩ = W.frozen? ⟨b, o, none⟩) :=
  ⟨fun b o h => hb.cell (p := ⟨b, o, none⟩) h, fun b o h => hb.frozen (p := ⟨b, o, none⟩) h⟩

/-- The longest a list can be. -/
def lenMax : Nat := 140737488355328
/-- All lists are short enough. -/
def Slots.fit (s : Slots) : Prop := s.n1 ≤ lenMax ∧ s.n2 ≤ lenMax ∧ s.n3 ≤ lenMax ∧ s.n4 ≤ lenMax ∧ s.n5 ≤ lenMax ∧ s.n6 ≤ lenMax
/-- A raw circuit's value. -/
def rawV (m : Nat) (s : Slots) : Value := .agg #[.int .u32 m, .slice s.a1 s.n1 s.c1, .slice s.a2 s.n2 s.c2, .slice s.a3 s.n3 s.c3, .slice s.a4 s.n4 s.c4, .slice s.a5 s.n5 s.c5, .slice s.a6 s.n6 s.c6]

theorem cell_new (w : World) (C : Array Value) (t : TypeId) (fr : Nat × Nat) (g k : Nat) (v : Value) (hg : g = w.heap.size) (h : C[k]? = some v) : (w.alloc (.cells C t fr)).cell? ⟨g, k, .none⟩ = some v := by
  subst hg; rw [World.cell?_alloc_mark]; exact h
theorem cell_lt {w : World} {b o : Nat} {v : Value} (h : w.cell? ⟨b, o, .none⟩ = some v) : b < w.heap.size := World.block_lt_of_cell? w ⟨b, o, .none⟩ h
theorem cell_below {w w' : World} {b o : Nat} {v : Value} (h : w.cell? ⟨b, o, .none⟩ = some v) (hb : Below w.heap.size w w') : w'.cell? ⟨b, o, .none⟩ = some v := (hb.cell (p := ⟨b, o, .none⟩) (cell_lt h)).trans h
theorem cell_old {w : World} {b o : Nat} {v : Value} {x : Obj} (h : w.cell? ⟨b, o, .none⟩ = some v) : (w.alloc x).cell? ⟨b, o, .none⟩ = some v := cell_below h (ext_alloc _ _)
end Go.Proofs.Ytcoehbkjccfhlaa
/- A raw circuit that came in: its lists are slices that read as numbers. -/
namespace Go.Proofs.Ytcoehbkjccfhlaa
open Go Go.ChangeShapes Go.WideShapes Go.ChangeAt Go.RowKit Go.WideElems Go.Deep Go.Joins

section
variable {H : Type} {enc : TypeId × Value → H} {W : World}

set_option maxRecDepth 100000 in
/-- A list of numbers, by its reading. -/
theorem open_nums {fuel : Nat} {v : Value} {x : DataW H × List MemPlace} (h : DataW.trod enc Try.prog W 0 (fun _ => true) true fuel 24 [v] = some x) :
    ∃ a n c xs, v = .slice a n c ∧ Sees W a n c (List.map nv32 xs) ∧ n ≤ Rows.uptoBulk x.1 ∧ ∀ y ∈ xs, y < 4294967296 := by
  rcases open_ints Try.underlying24 Try.underlying31 (by kernel_rfl) h with ⟨hcs, hx⟩ | ⟨a, len', cap', zs, hcs, _, hl, hm, hz, hx, hcell, hwz⟩
  · cases hcs
    exact ⟨_, _, _, [], rfl, Sees.nil _ _ _ (fun _ => rfl), by omega, by simp⟩
  · cases hcs
    subst hx
    simp only [if_true] at hz
    have hbs : ((zs.take len').map fun z => z.toNat).map nv32 = (zs.take len').map (Value.int .u32) := by
      rw [List.map_map]
      apply List.map_congr_left
      intro z hz'
      have hw := bounds_u32 (hwz z (List.mem_of_mem_take hz'))
      show nv32 z.toNat = _
      unfold nv32
      congr 1
      omega
    have hbulk : len' ≤ Rows.uptoBulk (DataW.slice (H := H) (lits .u32 (zs.take len')) (lits .u32 (zs.drop len'))) := by
      have h2 := bulk_slice (lits (H := H) .u32 (zs.take len')) (lits .u32 (zs.drop len'))
      have h3 : (lits (H := H) .u32 (zs.take len')).length = len' := by simp [lits]; omega
      omega
    refine ⟨_, _, _, (zs.take len').map fun z => z.toNat, rfl, ⟨by simp; omega, hl, (fun e => by cases e), fun h0 => ?_⟩, hbulk, ?_⟩
    · obtain ⟨b, off, rfl, hc⟩ := ints_at hcell (by omega)
      refine ⟨b, off, rfl, World.block_lt_of_cell? W ⟨b, off + 0, none⟩ (hc 0 (by omega)), fun j hj => ?_⟩
      rw [hbs, hc j (by omega)]
      simp [List.getD, List.getElem?_eq_getElem (show j < zs.length by omega), List.getElem?_take_of_lt hj]
    · intro y hy
      obtain ⟨z, hz', rfl⟩ := List.mem_map.1 hy
      have hw := bounds_u32 (hwz z (List.mem_of_mem_take hz'))
      omega

/-- A list of latches or gates, by its reading. -/
theorem open_tris {tS tE : TypeId} {fs : Array Field} (ht : Try.prog.underlying tS = some (.slice tE)) (he : Try.prog.underlying tE = some (.struct fs)) (hC : Try.prog.cellsOf tE = 3)
    (hfs : ∀ j, j < 3 → ∃ f, fs[j]? = some f ∧ f.offset = j ∧ Try.prog.cellsOf f.type = 1 ∧ Try.prog.underlying f.type = some (.int .u32)) (h3 : fs.size = 3)
    {fuel : Nat} {v : Value} {x : DataW H × List MemPlace} (h : DataW.trod enc Try.prog W 0 (fun _ => true) true fuel tS [v] = some x) :
    ∃ a n c l, v = .slice a n c ∧ Sees3 W a n c l ∧ n ≤ Rows.uptoBulk x.1 := by
  rcases Go.Deep.open_slice ht h with ⟨hcs, hx⟩ | ⟨a, len, cap, m, nf, D, Pl, hcs, _, hl, hm, hmm, hx, hi⟩
  · cases hcs
    exact ⟨none, 0, 0, [], rfl, Sees3.nil W, Nat.zero_le _⟩
  · cases hcs
    have hmc : m = cap := by rw [hmm]; simp
    have key : ∀ i, ∃ t : Tri, i < len → (W.cell? (a.add (3 * i)) = some (.int .u32 (t.1 : Nat)) ∧ W.cell? (a.add (3 * i + 1)) = some (.int .u32 (t.2.1 : Nat)) ∧ W.cell? (a.add (3 * i + 2)) = some (.int .u32 (t.2.2 : Nat))) := by
      intro i
      by_cases hil : i < len
      · obtain ⟨cs', hc, ht'⟩ := hi i (by omega)
        rw [hC] at hc
        obtain ⟨_, hcl, hat⟩ := World.cells?_some hc
        obtain ⟨xs, n', _, _, _, hxl, hg⟩ := DataW.trod_struct he ht'
        have one : ∀ j, j < 3 → ∃ z : Nat, W.cell? (a.add (3 * i + j)) = some (.int .u32 (z : Int)) := by
          intro j hj
          obtain ⟨f, hf, ho, hk, hu⟩ := hfs j hj
          have h1 := hg j f hf
          rw [ho, hk, List.getElem?_eq_getElem (by omega)] at h1
          obtain ⟨z, hz, _, hw⟩ := DataW.trod_int hu h1
          have hb := bounds_u32 hw
          refine ⟨z.toNat, ?_⟩
          have hadd : a.add (3 * i + j) = (a.add (i * 3)).add j := by
            rw [Nat.mul_comm 3 i]
            first
              | exact (Go.Deep.add_add _ _ _).symm
              | exact Go.Deep.add_add _ _ _
          have hd : (cs'.drop j).take 1 = [cs'[j]'(by omega)] := by rw [List.drop_eq_getElem_cons (by omega)]; rfl
          rw [hd] at hz
          have hz' : cs'[j]'(by omega) = .int .u32 z := by simpa using hz
          have ez : ((z.toNat : Nat) : Int) = z := by omega
          rw [hadd, hat j hj, List.getElem?_eq_getElem (by omega), hz', ez]
        obtain ⟨z0, q0⟩ := one 0 (by omega)
        obtain ⟨z1, q1⟩ := one 1 (by omega)
        obtain ⟨z2, q2⟩ := one 2 (by omega)
        exact ⟨(z0, z1, z2), fun _ => ⟨q0, q1, q2⟩⟩
      · exact ⟨(0, 0, 0), fun h => absurd h hil⟩
    obtain ⟨l, hl0, hlk⟩ : ∃ l : List Tri, l.length = len ∧ ∀ k, k < len → (W.cell? (a.add (3 * k)) = some (nv32 (l.getD k (0, 0, 0)).1) ∧ W.cell? (a.add (3 * k + 1)) = some (nv32 (l.getD k (0, 0, 0)).2.1) ∧ W.cell? (a.add (3 * k + 2)) = some (nv32 (l.getD k (0, 0, 0)).2.2)) := by
      refine ⟨(List.range len).map fun i => Classical.choose (key i), by simp, fun k hk => ?_⟩
      have hs := Classical.choose_spec (key k) hk
      have e : ((List.range len).map fun i => Classical.choose (key i)).getD k (0, 0, 0) = Classical.choose (key k) := by
        simp [List.getD, hk]
      rw [e]
      exact hs
    have hflat : ∀ j, j < 3 * len → W.cell? (a.add j) = (triCs l)[j]? := by
      intro j hj
      have hk : j / 3 < len := by omega
      have ht3 := triCs_at l (j / 3) (0, 0, 0) (by omega)
      have hc3 := hlk (j / 3) hk
      have hr : j = 3 * (j / 3) ∨ j = 3 * (j / 3) + 1 ∨ j = 3 * (j / 3) + 2 := by omega
      rcases hr with e | e | e
      · rw [e, ht3.1]; rw [← e]; rw [← e] at hc3; exact hc3.1
      · rw [e, ht3.2.1]; rw [← e]; have := hc3.2.1; rw [← e] at this; exact this
      · rw [e, ht3.2.2]; rw [← e]; have := hc3.2.2; rw [← e] at this; exact this
    subst hx
    refine ⟨some a, len, cap, l, rfl, ⟨hl0, hl, ⟨by rw [triCs_len]; omega, by omega, (fun e => by cases e), fun h0 => ?_⟩⟩, ?_⟩
    · obtain ⟨b, off, spot⟩ := a
      have h00 := hflat 0 h0
      have hsome : (triCs l)[0]? = some (nv32 (l.getD 0 (0, 0, 0)).1) := (triCs_at l 0 (0, 0, 0) (by omega)).1
      rw [hsome] at h00
      have hspot : spot = none := by simpa [Addr.add] using World.cell?_spot h00
      subst hspot
      have hadd : ∀ j, (⟨b, off, none⟩ : Addr).add j = ⟨b, off + j, none⟩ := by intro j; unfold Addr.add; split <;> simp_all
      refine ⟨b, off, rfl, ?_, fun j hj => ?_⟩
      · rw [hadd] at h00
        exact cell_lt h00
      · rw [← hadd]; exact hflat j hj
    · have h2 := bulk_slice ((List.range len).map D) ((List.range (m - len)).map fun j => D (len + j))
      simpa using h2

end
end Go.Proofs.Ytcoehbkjccfhlaa
namespace Go.Proofs.Ytcoehbkjccfhlaa
open Go Go.ChangeShapes Go.WideShapes Go.ChangeAt Go.RowKit Go.WideElems Go.Deep Go.Joins

section
variable {H : Type} {enc : TypeId × Value → H} {W : World}

/-- A list of pairs, by its reading. -/
theorem open_prs {tS tE : TypeId} {fs : Array Field} {k2 : IntKind} (B2 : Nat) (ht : Try.prog.underlying tS = some (.slice tE)) (he : Try.prog.underlying tE = some (.struct fs)) (hC : Try.prog.cellsOf tE = 2)
    (hf0 : ∃ f, fs[0]? = some f ∧ f.offset = 0 ∧ Try.prog.cellsOf f.type = 1 ∧ Try.prog.underlying f.type = some (.int .u32))
    (hf1 : ∃ f, fs[1]? = some f ∧ f.offset = 1 ∧ Try.prog.cellsOf f.type = 1 ∧ Try.prog.underlying f.type = some (.int k2)) (h2 : fs.size = 2)
    (hb2 : ∀ z : Int, (Lit.int k2 z).wf = true → 0 ≤ z ∧ z < (B2 : Int))
    {fuel : Nat} {v : Value} {x : DataW H × List MemPlace} (h : DataW.trod enc Try.prog W 0 (fun _ => true) true fuel tS [v] = some x) :
    ∃ a n c l, v = .slice a n c ∧ Sees2 (fun m => .int k2 (m : Int)) W a n c l ∧ n ≤ Rows.uptoBulk x.1 ∧ ∀ p ∈ l, p.1 < 4294967296 ∧ p.2 < B2 := by
  rcases Go.Deep.open_slice ht h with ⟨hcs, hx⟩ | ⟨a, len, cap, m, nf, D, Pl, hcs, _, hl, hm, hmm, hx, hi⟩
  · cases hcs
    exact ⟨none, 0, 0, [], rfl, Sees2.nil _ W, Nat.zero_le _, by simp⟩
  · cases hcs
    have hmc : m = cap := by rw [hmm]; simp
    have key : ∀ i, ∃ t : Nat × Nat, i < len → (W.cell? (a.add (2 * i)) = some (nv32 t.1) ∧ W.cell? (a.add (2 * i + 1)) = some (.int k2 (t.2 : Int)) ∧ t.1 < 4294967296 ∧ t.2 < B2) := by
      intro i
      by_cases hil : i < len
      · obtain ⟨cs', hc, ht'⟩ := hi i (by omega)
        rw [hC] at hc
        obtain ⟨_, hcl, hat⟩ := World.cells?_some hc
        obtain ⟨xs, n', _, _, _, hxl, hg⟩ := DataW.trod_struct he ht'
        have one : ∀ j, j < 2 → ∀ k f, fs[j]? = some f → f.offset = j → Try.prog.cellsOf f.type = 1 → Try.prog.underlying f.type = some (.int k) → ∃ z : Int, (Lit.int k z).wf = true ∧ W.cell? (a.add (2 * i + j)) = some (.int k z) := by
          intro j hj k f hf ho hk hu
          have h1 := hg j f hf
          rw [ho, hk, List.getElem?_eq_getElem (by omega)] at h1
          obtain ⟨z, hz, _, hw⟩ := DataW.trod_int hu h1
          refine ⟨z, hw, ?_⟩
          have hadd : a.add (2 * i + j) = (a.add (i * 2)).add j := by
            rw [Nat.mul_comm 2 i]
            first
              | exact (Go.Deep.add_add _ _ _).symm
              | exact Go.Deep.add_add _ _ _
          have hd : (cs'.drop j).take 1 = [cs'[j]'(by omega)] := by rw [List.drop_eq_getElem_cons (by omega)]; rfl
          rw [hd] at hz
          have hz' : cs'[j]'(by omega) = .int k z := by simpa using hz
          rw [hadd, hat j hj, List.getElem?_eq_getElem (by omega), hz']
        obtain ⟨f0, e0, o0, c0, u0⟩ := hf0
        obtain ⟨f1, e1, o1, c1, u1⟩ := hf1
        obtain ⟨z0, w0, q0⟩ := one 0 (by omega) _ f0 e0 o0 c0 u0
        obtain ⟨z1, w1, q1⟩ := one 1 (by omega) _ f1 e1 o1 c1 u1
        have b0 := bounds_u32 w0
        have b1 := hb2 z1 w1
        refine ⟨(z0.toNat, z1.toNat), fun _ => ⟨?_, ?_, by simp only; omega, by simp only; omega⟩⟩
        · have ez : ((z0.toNat : Nat) : Int) = z0 := by omega
          simp only [nv32]; rw [ez]; exact q0
        · have ez : ((z1.toNat : Nat) : Int) = z1 := by omega
          simp only; rw [ez]; exact q1
      · exact ⟨(0, 0), fun h => absurd h hil⟩
    obtain ⟨l, hl0, hlk⟩ : ∃ l : List (Nat × Nat), l.length = len ∧ ∀ k, k < len → (W.cell? (a.add (2 * k)) = some (nv32 (l.getD k (0, 0)).1) ∧ W.cell? (a.add (2 * k + 1)) = some (.int k2 ((l.getD k (0, 0)).2 : Int)) ∧ (l.getD k (0, 0)).1 < 4294967296 ∧ (l.getD k (0, 0)).2 < B2) := by
      refine ⟨(List.range len).map fun i => Classical.choose (key i), by simp, fun k hk => ?_⟩
      have hs := Classical.choose_spec (key k) hk
      have e : ((List.range len).map fun i => Classical.choose (key i)).getD k (0, 0) = Classical.choose (key k) := by
        simp [List.getD, hk]
      rw [e]
      exact hs
    have hflat : ∀ j, j < 2 * len → W.cell? (a.add j) = (prCs (fun m => .int k2 (m : Int)) l)[j]? := by
      intro j hj
      have hk : j / 2 < len := by omega
      have ht3 := prCs_at (fun m => .int k2 (m : Int)) l (j / 2) (0, 0) (by omega)
      have hc3 := hlk (j / 2) hk
      have hr : j = 2 * (j / 2) ∨ j = 2 * (j / 2) + 1 := by omega
      rcases hr with e | e
      · rw [e, ht3.1]; rw [← e]; rw [← e] at hc3; exact hc3.1
      · rw [e, ht3.2]; rw [← e]; have := hc3.2.1; rw [← e] at this; exact this
    subst hx
    refine ⟨some a, len, cap, l, rfl, ⟨hl0, hl, ⟨by rw [prCs_len]; omega, by omega, (fun e => by cases e), fun h0 => ?_⟩⟩, ?_, ?_⟩
    · obtain ⟨b, off, spot⟩ := a
      have h00 := hflat 0 h0
      have hsome : (prCs (fun m => .int k2 (m : Int)) l)[0]? = some (nv32 (l.getD 0 (0, 0)).1) := (prCs_at _ l 0 (0, 0) (by omega)).1
      rw [hsome] at h00
      have hspot : spot = none := by simpa [Addr.add] using World.cell?_spot h00
      subst hspot
      have hadd : ∀ j, (⟨b, off, none⟩ : Addr).add j = ⟨b, off + j, none⟩ := by intro j; unfold Addr.add; split <;> simp_all
      refine ⟨b, off, rfl, ?_, fun j hj => ?_⟩
      · rw [hadd] at h00
        exact cell_lt h00
      · rw [← hadd]; exact hflat j hj
    · have h2 := bulk_slice ((List.range len).map D) ((List.range (m - len)).map fun j => D (len + j))
      simpa using h2
    · intro p hp
      obtain ⟨k, hk, rfl⟩ := List.getElem_of_mem hp
      have := hlk k (by omega)
      simpa [List.getD, List.getElem?_eq_getElem hk] using this.2.2

set_option maxRecDepth 100000 in
/-- A circuit that came in. -/
theorem open_cir {v : Value} {d : DataW H} {p : List MemPlace} {base : Nat} (hv : Value.okWide Try.prog W .any base 26 v) (h : DataW.Trod enc Try.prog W 0 (fun _ => true) true 26 v d p) :
    ∃ (c : NormC) (s : CSlots), v = cirV c.ins s ∧ SeesCir W s c ∧ -9223372036854775808 ≤ c.ins ∧ c.ins < 9223372036854775808 ∧ s.n1 ≤ Rows.uptoBulk d ∧ s.n2 ≤ Rows.uptoBulk d ∧ s.n3 ≤ Rows.uptoBulk d ∧ s.n4 ≤ Rows.uptoBulk d ∧ s.n5 ≤ Rows.uptoBulk d ∧
      (∀ p ∈ c.lats, p.1 < 4294967296 ∧ p.2 < 256) ∧ (∀ p ∈ c.gates, p.1 < 4294967296 ∧ p.2 < 4294967296) ∧ (∀ x ∈ c.outs, x < 4294967296) ∧ (∀ x ∈ c.bads, x < 4294967296) ∧ (∀ x ∈ c.cons, x < 4294967296) := by
  obtain ⟨cs, rfl, hsz⟩ := okWide_struct Try.underlying26 hv
  have hC : Try.prog.cellsOf 26 = 6 := by kernel_rfl
  have k22 : Try.prog.cellsOf 3 = 1 := by kernel_rfl
  have k32 : Try.prog.cellsOf 31 = 1 := by kernel_rfl
  have k8 : Try.prog.cellsOf 5 = 1 := by kernel_rfl
  obtain ⟨l⟩ := cs
  match l, hsz.trans hC with
  | [v0, v1, v2, v3, v4, v5], _ =>
    obtain ⟨fuel, hf⟩ := h
    obtain ⟨xs, n, _, hx, _, hlen, hg⟩ := DataW.trod_struct Try.underlying26 hf
    match xs, hlen with
    | [y0, y1, y2, y3, y4, y5], _ =>
      simp only [Prod.mk.injEq] at hx
      have g0 := hg 0 _ rfl
      have g1 := hg 1 _ rfl
      have g2 := hg 2 _ rfl
      have g3 := hg 3 _ rfl
      have g4 := hg 4 _ rfl
      have g5 := hg 5 _ rfl
      simp only [Value.cells] at g0 g1 g2 g3 g4 g5
      obtain ⟨z, hz, _, hw⟩ := DataW.trod_int Try.underlying3 g0
      obtain ⟨a1, n1, c1, l1, e1, s1, b1, q1⟩ := open_prs (v := v1) 256 Try.underlying22 Try.underlying63 (by kernel_rfl) ⟨_, rfl, rfl, k32, Try.underlying31⟩ ⟨_, rfl, rfl, k8, Try.underlying5⟩ rfl (fun z h => by have := bounds_u8 h; omega) g1
      obtain ⟨a2, n2, c2, l2, e2, s2, b2, q2⟩ := open_prs (v := v2) 4294967296 Try.underlying23 Try.underlying65 (by kernel_rfl) ⟨_, rfl, rfl, k32, Try.underlying31⟩ ⟨_, rfl, rfl, k32, Try.underlying31⟩ rfl (fun z h => by have := bounds_u32 h; omega) g2
      obtain ⟨a3, n3, c3, l3, e3, s3, b3, q3⟩ := open_nums (v := v3) g3
      obtain ⟨a4, n4, c4, l4, e4, s4, b4, q4⟩ := open_nums (v := v4) g4
      obtain ⟨a5, n5, c5, l5, e5, s5, b5, q5⟩ := open_nums (v := v5) g5
      subst e1; subst e2; subst e3; subst e4; subst e5
      have hz2 : List.take (Try.prog.cellsOf 3) [v0, .slice a1 n1 c1, .slice a2 n2 c2, .slice a3 n3 c3, .slice a4 n4 c4, .slice a5 n5 c5] = [.int .i64 z] := hz
      have hv0 : v0 = .int .i64 z := by rw [k22] at hz2; simpa using hz2
      have hbz := bounds_i64 hw
      have hd : d = .agg [y0.1, y1.1, y2.1, y3.1, y4.1, y5.1] := by simpa using hx.1
      have hbk : ∀ y ∈ [y0.1, y1.1, y2.1, y3.1, y4.1, y5.1], Rows.uptoBulk y ≤ Rows.uptoBulk d := fun y hy => by
        have := bulk_part hy
        rw [hd]
        simp only [Rows.uptoBulk]
        omega
      refine ⟨⟨z, l1, l2, l3, l4, l5⟩, ⟨a1, n1, c1, a2, n2, c2, a3, n3, c3, a4, n4, c4, a5, n5, c5⟩, ?_, ⟨s1, s2, s3, s4, s5⟩, by simp only; omega, by simp only; omega, Nat.le_trans b1 (hbk _ (by simp)), Nat.le_trans b2 (hbk _ (by simp)), Nat.le_trans b3 (hbk _ (by simp)), Nat.le_trans b4 (hbk _ (by simp)), Nat.le_trans b5 (hbk _ (by simp)), q1, q2, q3, q4, q5⟩
      unfold cirV
      rw [hv0]

end
end Go.Proofs.Ytcoehbkjccfhlaa
