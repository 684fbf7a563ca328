/- BinBack returns true for every circuit, every remark and every cut, where what it reads is of bulk at most 1048576: what is put is got, by Get and by Any; so is its text; with a remark behind it, too; cut, it is refused. Conditions: the bound; the three tables start as the program's text lays them (the card ties them). -/
import Derived.Test.YtglhnmbfkbjemaaGreatDoorBkD
import Derived.Test.YtglhnmbfkbjemaaGreatDoorBkA
import Derived.Deep.Slices
import Derived.Deep.Fields
import Derived.ChangeSame
import Derived.Test.YtglhnmbfkbjemaaGreatDoorBkF
import Derived.Test.YtglhnmbfkbjemaaGreatDoorBkB
import Derived.Test.YtglhnmbfkbjemaaGreatDoorBBackLaw
/- A raw circuit that came in: its lists are slices that read as numbers. -/
namespace Go.Proofs.YtglhnmbfkbjemaaGreatDoor
open Go Go.ChangeShapes Go.WideShapes Go.ChangeAt Go.RowKit Go.WideElems Go.Deep Go.Joins
section
variable {H : Type} {enc : TypeId × Value → H} {W : World}
set_option maxRecDepth 100000 in
theorem open_nums {fuel : Nat} {v : Value} {x : DataW H × List MemPlace} (h : DataW.trod enc Tryz.prog W 0 (fun _ => true) true fuel 24 [v] = some x) :
    ∃ a n c xs, v = .slice a n c ∧ Sees W a n c (List.map nv32 xs) ∧ n ≤ Rows.uptoBulk x.1 ∧ ∀ y ∈ xs, y < 4294967296 := by
  rcases open_ints Tryz.underlying24 Tryz.underlying35 (by kernel_rfl) h with ⟨hcs, hx⟩ | ⟨a, len', cap', zs, hcs, _, hl, hm, hz, hx, hcell, hwz⟩
  · cases hcs
    exact ⟨_, _, _, [], rfl, Sees.nil _ _ _ (fun _ => rfl), by omega, by simp⟩
  · cases hcs
    subst hx
    simp only [if_true] at hz
    have hbs : ((zs.take len').map fun z => z.toNat).map nv32 = (zs.take len').map (Value.int .u32) := by
      rw [List.map_map]
      apply List.map_congr_left
      intro z hz'
      have hw := bounds_u32 (hwz z (List.mem_of_mem_take hz'))
      show nv32 z.toNat = _
      unfold nv32
      congr 1
      omega
    have hbulk : len' ≤ Rows.uptoBulk (DataW.slice (H := H) (lits .u32 (zs.take len')) (lits .u32 (zs.drop len'))) := by
      have h2 := bulk_slice (lits (H := H) .u32 (zs.take len')) (lits .u32 (zs.drop len'))
      have h3 : (lits (H := H) .u32 (zs.take len')).length = len' := by simp [lits]; omega
      omega
    refine ⟨_, _, _, (zs.take len').map fun z => z.toNat, rfl, ⟨by simp; omega, hl, (fun e => by cases e), fun h0 => ?_⟩, hbulk, ?_⟩
    · obtain ⟨b, off, rfl, hc⟩ := ints_at hcell (by omega)
      refine ⟨b, off, rfl, World.block_lt_of_cell? W ⟨b, off + 0, none⟩ (hc 0 (by omega)), fun j hj => ?_⟩
      rw [hbs, hc j (by omega)]
      simp [List.getD, List.getElem?_eq_getElem (show j < zs.length by omega), List.getElem?_take_of_lt hj]
    · intro y hy
      obtain ⟨z, hz', rfl⟩ := List.mem_map.1 hy
      have hw := bounds_u32 (hwz z (List.mem_of_mem_take hz'))
      omega
end
end Go.Proofs.YtglhnmbfkbjemaaGreatDoor
/- A circuit as an argument. -/
namespace Go.Proofs.YtglhnmbfkbjemaaGreatDoor
open Go Go.ChangeShapes Go.WideShapes Go.ChangeAt Go.RowKit Go.WideElems Go.Deep Go.Joins
section
variable {H : Type} {enc : TypeId × Value → H} {W : World}
theorem open_prs {tS tE : TypeId} {fs : Array Field} {k2 : IntKind} (B2 : Nat) (ht : Tryz.prog.underlying tS = some (.slice tE)) (he : Tryz.prog.underlying tE = some (.struct fs)) (hC : Tryz.prog.cellsOf tE = 2)
    (hf0 : ∃ f, fs[0]? = some f ∧ f.offset = 0 ∧ Tryz.prog.cellsOf f.type = 1 ∧ Tryz.prog.underlying f.type = some (.int .u32))
    (hf1 : ∃ f, fs[1]? = some f ∧ f.offset = 1 ∧ Tryz.prog.cellsOf f.type = 1 ∧ Tryz.prog.underlying f.type = some (.int k2)) (h2 : fs.size = 2)
    (hb2 : ∀ z : Int, (Lit.int k2 z).wf = true → 0 ≤ z ∧ z < (B2 : Int))
    {fuel : Nat} {v : Value} {x : DataW H × List MemPlace} (h : DataW.trod enc Tryz.prog W 0 (fun _ => true) true fuel tS [v] = some x) :
    ∃ a n c l, v = .slice a n c ∧ Sees2 (fun m => .int k2 (m : Int)) W a n c l ∧ n ≤ Rows.uptoBulk x.1 ∧ ∀ p ∈ l, p.1 < 4294967296 ∧ p.2 < B2 := by
  rcases Go.Deep.open_slice ht h with ⟨hcs, hx⟩ | ⟨a, len, cap, m, nf, D, Pl, hcs, _, hl, hm, hmm, hx, hi⟩
  · cases hcs
    exact ⟨none, 0, 0, [], rfl, Sees2.nil _ W, Nat.zero_le _, by simp⟩
  · cases hcs
    have hmc : m = cap := by rw [hmm]; simp
    have key : ∀ i, ∃ t : Nat × Nat, i < len → (W.cell? (a.add (2 * i)) = some (nv32 t.1) ∧ W.cell? (a.add (2 * i + 1)) = some (.int k2 (t.2 : Int)) ∧ t.1 < 4294967296 ∧ t.2 < B2) := by
      intro i
      by_cases hil : i < len
      · obtain ⟨cs', hc, ht'⟩ := hi i (by omega)
        rw [hC] at hc
        obtain ⟨_, hcl, hat⟩ := World.cells?_some hc
        obtain ⟨xs, n', _, _, _, hxl, hg⟩ := DataW.trod_struct he ht'
        have one : ∀ j, j < 2 → ∀ k f, fs[j]? = some f → f.offset = j → Tryz.prog.cellsOf f.type = 1 → Tryz.prog.underlying f.type = some (.int k) → ∃ z : Int, (Lit.int k z).wf = true ∧ W.cell? (a.add (2 * i + j)) = some (.int k z) := by
          intro j hj k f hf ho hk hu
          have h1 := hg j f hf
          rw [ho, hk, List.getElem?_eq_getElem (by omega)] at h1
          obtain ⟨z, hz, _, hw⟩ := DataW.trod_int hu h1
          refine ⟨z, hw, ?_⟩
          have hadd : a.add (2 * i + j) = (a.add (i * 2)).add j := by
            rw [Nat.mul_comm 2 i]
            first
              | exact (Go.Deep.add_add _ _ _).symm
              | exact Go.Deep.add_add _ _ _
          have hd : (cs'.drop j).take 1 = [cs'[j]'(by omega)] := by rw [List.drop_eq_getElem_cons (by omega)]; rfl
          rw [hd] at hz
          have hz' : cs'[j]'(by omega) = .int k z := by simpa using hz
          rw [hadd, hat j hj, List.getElem?_eq_getElem (by omega), hz']
        obtain ⟨f0, e0, o0, c0, u0⟩ := hf0
        obtain ⟨f1, e1, o1, c1, u1⟩ := hf1
        obtain ⟨z0, w0, q0⟩ := one 0 (by omega) _ f0 e0 o0 c0 u0
        obtain ⟨z1, w1, q1⟩ := one 1 (by omega) _ f1 e1 o1 c1 u1
        have b0 := bounds_u32 w0
        have b1 := hb2 z1 w1
        refine ⟨(z0.toNat, z1.toNat), fun _ => ⟨?_, ?_, by simp only; omega, by simp only; omega⟩⟩
        · have ez : ((z0.toNat : Nat) : Int) = z0 := by omega
          simp only [nv32]; rw [ez]; exact q0
        · have ez : ((z1.toNat : Nat) : Int) = z1 := by omega
          simp only; rw [ez]; exact q1
      · exact ⟨(0, 0), fun h => absurd h hil⟩
    obtain ⟨l, hl0, hlk⟩ : ∃ l : List (Nat × Nat), l.length = len ∧ ∀ k, k < len → (W.cell? (a.add (2 * k)) = some (nv32 (l.getD k (0, 0)).1) ∧ W.cell? (a.add (2 * k + 1)) = some (.int k2 ((l.getD k (0, 0)).2 : Int)) ∧ (l.getD k (0, 0)).1 < 4294967296 ∧ (l.getD k (0, 0)).2 < B2) := by
      refine ⟨(List.range len).map fun i => Classical.choose (key i), by simp, fun k hk => ?_⟩
      have hs := Classical.choose_spec (key k) hk
      have e : ((List.range len).map fun i => Classical.choose (key i)).getD k (0, 0) = Classical.choose (key k) := by
        simp [List.getD, hk]
      rw [e]
      exact hs
    have hflat : ∀ j, j < 2 * len → W.cell? (a.add j) = (prCs (fun m => .int k2 (m : Int)) l)[j]? := by
      intro j hj
      have hk : j / 2 < len := by omega
      have ht3 := prCs_at (fun m => .int k2 (m : Int)) l (j / 2) (0, 0) (by omega)
      have hc3 := hlk (j / 2) hk
      have hr : j = 2 * (j / 2) ∨ j = 2 * (j / 2) + 1 := by omega
      rcases hr with e | e
      · rw [e, ht3.1]; rw [← e]; rw [← e] at hc3; exact hc3.1
      · rw [e, ht3.2]; rw [← e]; have := hc3.2.1; rw [← e] at this; exact this
    subst hx
    refine ⟨some a, len, cap, l, rfl, ⟨hl0, hl, ⟨by rw [prCs_len]; omega, by omega, (fun e => by cases e), fun h0 => ?_⟩⟩, ?_, ?_⟩
    · obtain ⟨b, off, spot⟩ := a
      have h00 := hflat 0 h0
      have hsome : (prCs (fun m => .int k2 (m : Int)) l)[0]? = some (nv32 (l.getD 0 (0, 0)).1) := (prCs_at _ l 0 (0, 0) (by omega)).1
      rw [hsome] at h00
      have hspot : spot = none := by simpa [Addr.add] using World.cell?_spot h00
      subst hspot
      have hadd : ∀ j, (⟨b, off, none⟩ : Addr).add j = ⟨b, off + j, none⟩ := by intro j; unfold Addr.add; split <;> simp_all
      refine ⟨b, off, rfl, ?_, fun j hj => ?_⟩
      · rw [hadd] at h00
        exact cell_lt h00
      · rw [← hadd]; exact hflat j hj
    · have h2 := bulk_slice ((List.range len).map D) ((List.range (m - len)).map fun j => D (len + j))
      simpa using h2
    · intro p hp
      obtain ⟨k, hk, rfl⟩ := List.getElem_of_mem hp
      have := hlk k (by omega)
      simpa [List.getD, List.getElem?_eq_getElem hk] using this.2.2
set_option maxRecDepth 100000 in
theorem open_cir {v : Value} {d : DataW H} {p : List MemPlace} {base : Nat} (hv : Value.okWide Tryz.prog W .any base 26 v) (h : DataW.Trod enc Tryz.prog W 0 (fun _ => true) true 26 v d p) :
    ∃ (c : NormC) (s : CSlots), v = cirV c.ins s ∧ SeesCir W s c ∧ -9223372036854775808 ≤ c.ins ∧ c.ins < 9223372036854775808 ∧ s.n1 ≤ Rows.uptoBulk d ∧ s.n2 ≤ Rows.uptoBulk d ∧ s.n3 ≤ Rows.uptoBulk d ∧ s.n4 ≤ Rows.uptoBulk d ∧ s.n5 ≤ Rows.uptoBulk d ∧
      (∀ p ∈ c.lats, p.1 < 4294967296 ∧ p.2 < 256) ∧ (∀ p ∈ c.gates, p.1 < 4294967296 ∧ p.2 < 4294967296) ∧ (∀ x ∈ c.outs, x < 4294967296) ∧ (∀ x ∈ c.bads, x < 4294967296) ∧ (∀ x ∈ c.cons, x < 4294967296) := by
  obtain ⟨cs, rfl, hsz⟩ := okWide_struct Tryz.underlying26 hv
  have hC : Tryz.prog.cellsOf 26 = 6 := by kernel_rfl
  have k22 : Tryz.prog.cellsOf 3 = 1 := by kernel_rfl
  have k32 : Tryz.prog.cellsOf 35 = 1 := by kernel_rfl
  have k8 : Tryz.prog.cellsOf 5 = 1 := by kernel_rfl
  obtain ⟨l⟩ := cs
  match l, hsz.trans hC with
  | [v0, v1, v2, v3, v4, v5], _ =>
    obtain ⟨fuel, hf⟩ := h
    obtain ⟨xs, n, _, hx, _, hlen, hg⟩ := DataW.trod_struct Tryz.underlying26 hf
    match xs, hlen with
    | [y0, y1, y2, y3, y4, y5], _ =>
      simp only [Prod.mk.injEq] at hx
      have g0 := hg 0 _ rfl
      have g1 := hg 1 _ rfl
      have g2 := hg 2 _ rfl
      have g3 := hg 3 _ rfl
      have g4 := hg 4 _ rfl
      have g5 := hg 5 _ rfl
      simp only [Value.cells] at g0 g1 g2 g3 g4 g5
      obtain ⟨z, hz, _, hw⟩ := DataW.trod_int Tryz.underlying3 g0
      obtain ⟨a1, n1, c1, l1, e1, s1, b1, q1⟩ := open_prs (v := v1) 256 Tryz.underlying22 Tryz.underlying61 (by kernel_rfl) ⟨_, rfl, rfl, k32, Tryz.underlying35⟩ ⟨_, rfl, rfl, k8, Tryz.underlying5⟩ rfl (fun z h => by have := bounds_u8 h; omega) g1
      obtain ⟨a2, n2, c2, l2, e2, s2, b2, q2⟩ := open_prs (v := v2) 4294967296 Tryz.underlying23 Tryz.underlying46 (by kernel_rfl) ⟨_, rfl, rfl, k32, Tryz.underlying35⟩ ⟨_, rfl, rfl, k32, Tryz.underlying35⟩ rfl (fun z h => by have := bounds_u32 h; omega) g2
      obtain ⟨a3, n3, c3, l3, e3, s3, b3, q3⟩ := open_nums (v := v3) g3
      obtain ⟨a4, n4, c4, l4, e4, s4, b4, q4⟩ := open_nums (v := v4) g4
      obtain ⟨a5, n5, c5, l5, e5, s5, b5, q5⟩ := open_nums (v := v5) g5
      subst e1; subst e2; subst e3; subst e4; subst e5
      have hz2 : List.take (Tryz.prog.cellsOf 3) [v0, .slice a1 n1 c1, .slice a2 n2 c2, .slice a3 n3 c3, .slice a4 n4 c4, .slice a5 n5 c5] = [.int .i64 z] := hz
      have hv0 : v0 = .int .i64 z := by rw [k22] at hz2; simpa using hz2
      have hbz := bounds_i64 hw
      have hd : d = .agg [y0.1, y1.1, y2.1, y3.1, y4.1, y5.1] := by simpa using hx.1
      have hbk : ∀ y ∈ [y0.1, y1.1, y2.1, y3.1, y4.1, y5.1], Rows.uptoBulk y ≤ Rows.uptoBulk d := fun y hy => by
        have := bulk_part hy
        rw [hd]
        simp only [Rows.uptoBulk]
        omega
      refine ⟨⟨z, l1, l2, l3, l4, l5⟩, ⟨a1, n1, c1, a2, n2, c2, a3, n3, c3, a4, n4, c4, a5, n5, c5⟩, ?_, ⟨s1, s2, s3, s4, s5⟩, by simp only; omega, by simp only; omega, Nat.le_trans b1 (hbk _ (by simp)), Nat.le_trans b2 (hbk _ (by simp)), Nat.le_trans b3 (hbk _ (by simp)), Nat.le_trans b4 (hbk _ (by simp)), Nat.le_trans b5 (hbk _ (by simp)), q1, q2, q3, q4, q5⟩
      unfold cirV
      rw [hv0]
end
end Go.Proofs.YtglhnmbfkbjemaaGreatDoor
namespace Go.Proofs.YtglhnmbfkbjemaaGreatDoor.binBack
open Go Go.ChangeShapes Go.WideShapes Go.ChangeAt Go.RowKit
set_option maxRecDepth 100000 in
theorem contract (H : Type) (enc : TypeId × Value → H) (W : World) (base : Nat) (args : Array Value) (ds gs : List (DataW H)) (before : List MemPlace)
    (hval : ∀ (j : Nat) t v, Tryz.f3.params[j]? = some t → args[j]? = some v → Value.okWide Tryz.prog W .any base t v)
    (hW : DataW.Whole enc Tryz.prog Tryz.f3.params.toList Rows.binBackSpec.vars false W args.toList ds gs before) (hL : laidMetH Tryz.prog Rows.binBackRow.laid W)
    (hk : Rows.uptoSmall H (ds ++ gs) = true) :
    Calls Tryz.prog 3 args W fun e W' => ∃ v, e = .returned v ∧ Rows.binBackSpec.post enc Tryz.prog Tryz.f3 false true false false W args v W' := by
  have hW' := hW
  obtain ⟨p, q, hA0, hV, rfl, hfz, hnd⟩ := hW
  have hA : DataW.TrodAll enc Tryz.prog W 0 (fun _ => true) true Tryz.f3.params.toList args.toList ds p := hA0
  rw [Tryz.params3] at hA hval
  obtain ⟨v0, vs0, d0, ds0, p0, q0, hargs, rfl, rfl, h0, r0⟩ := trodAll_cons hA
  obtain ⟨v1, vs1, d1, ds1, p1, q1, rfl, rfl, rfl, h1, r1⟩ := trodAll_cons r0
  obtain ⟨v2, vs2, d2, ds2, p2, q2, rfl, rfl, rfl, h2, r2⟩ := trodAll_cons r1
  obtain ⟨rfl, rfl, rfl⟩ := trodAll_nil r2
  obtain rfl : args = #[v0, v1, v2] := by cases args; simp_all
  obtain ⟨rfl, rfl⟩ := trodVars_none hV
  have hb := bulk_bound hk
  have hb0 := bulk_part (d := d0) (l := [d0, d1, d2] ++ []) (by simp)
  have hb1 := bulk_part (d := d1) (l := [d0, d1, d2] ++ []) (by simp)
  obtain ⟨t0, s0, rfl, hs0, lo0, hi0, m01, m02, m03, m04, m05, m06, m07, m08, m09, m010⟩ := open_cir (hval 0 26 _ rfl rfl) h0
  obtain ⟨a1, n1, c1, bs1, rfl, hs1, hn1⟩ := open_u8s (hval 1 27 _ rfl rfl) h1
  obtain ⟨z2, rfl, rfl, rfl, wz2⟩ := open_int Tryz.underlying3 (hval 2 3 v2 rfl rfl) h2
  have hz2 := bounds_i64 wz2
  clear hA0 hA
  refine (binback_any t0 s0 bs1 a1 n1 c1 z2 W hs0 ⟨by omega, by omega, by omega, by omega, by omega⟩ lo0 hi0 ⟨m06, m07, m08, m09, m010⟩ hs1 (by omega) (tab_of hL)).mono fun e W' ⟨he, hbel⟩ => ?_
  subst he
  exact ⟨_, rfl, law_end laidOut (by decide +kernel) rfl rfl Tryz.underlying4 hW' rfl rfl rfl hbel⟩
theorem laid_met (os : Os) : laidMet Tryz.prog Rows.binBackUptoRow.laid ((laidWorld os).forCall (fun _ _ => 0) ⟨#[], #[.agg #[.int .i64 0, .slice none 0 0, .slice none 0 0, .slice none 0 0, .slice none 0 0, .slice none 0 0], .slice none 0 0, .int .i64 0], []⟩).memory :=
  laidMet_of_run' 8 (by kernel_rfl) (by kernel_rfl)
theorem reads (os : Os) {H : Type} (enc : TypeId × Value → H) : ∃ places, DataW.whole enc Tryz.prog ((laidWorld os).forCall (fun _ _ => 0) ⟨#[], #[.agg #[.int .i64 0, .slice none 0 0, .slice none 0 0, .slice none 0 0, .slice none 0 0, .slice none 0 0], .slice none 0 0, .int .i64 0], []⟩).memory Tryz.f3.params.toList Rows.binBackSpec.vars false #[Value.agg #[.int .i64 0, .slice none 0 0, .slice none 0 0, .slice none 0 0, .slice none 0 0, .slice none 0 0], Value.slice none 0 0, Value.int .i64 0].toList 8 = some ([.agg [.lit (.int .i64 0), .nil, .nil, .nil, .nil, .nil], .nil, .lit (.int .i64 0)], [], places) :=
  ⟨[], by kernel_rfl⟩
set_option maxRecDepth 100000 in
theorem liftedUpto (os : Os) (started : os.Started) (H : Type) (enc : TypeId × Value → H) (F : Stop.Interp) :
    ReturnsInHanded {} Tryz.checked os 3 .any ((Rows.OpenSpec.upto Rows.binBackSpec).preRow enc Tryz.prog Tryz.f3 Rows.binBackUptoRow.domain false Rows.binBackUptoRow.laid) (((Rows.OpenSpec.upto Rows.binBackSpec).at F).post enc Tryz.prog Tryz.f3 false true false false) := by
  obtain ⟨places, hx⟩ := reads os enc
  refine returnsInHanded_of_row (C := Tryz.checked) (s := Rows.OpenSpec.upto Rows.binBackSpec) own started (by kernel_rfl) Tryz.func3
    (witness_row_at (enc := enc) (C := Tryz.checked) false (laidWorld os) #[.agg #[.int .i64 0, .slice none 0 0, .slice none 0 0, .slice none 0 0, .slice none 0 0, .slice none 0 0], .slice none 0 0, .int .i64 0] rfl (by kernel_rfl) (by kernel_rfl) (by kernel_rfl)
      (OpenSpec.preRow_of_cond 8 hx (by kernel_rfl) (fun k hk => by cases hk; kernel_rfl) (by kernel_rfl) (laid_met os))) ?_
  intro W base args ds gs before hval hW _ hcond _ hL _ _
  exact contract H enc W base args ds gs before hval hW hL (hcond _ rfl)
theorem saidUpto : Rows.BinBackUptoSaid :=
  OpenClaim.holds_of_cond 3 Tryz.f3 rfl rfl rfl rfl rfl rfl rfl ⟨rfl, rfl, rfl, rfl, rfl⟩ rfl rfl rfl rfl rfl (by kernel_rfl) Tryz.func3 (by kernel_rfl)
    (of_decide_eq_true (by kernel_rfl)) (by unfold Func.isWrapper; first | (rw [if_pos (by decide +kernel)]; kernel_rfl) | (rw [if_neg (by decide +kernel)]; exact ⟨rfl, rfl⟩))
    (fun os started H enc _ F => by rw [OpenClaim.pre_eq_preRow]; exact liftedUpto os started H enc F)
theorem plain (f : FuncId) (fn : Func) (hf : Tryz.pinned.checked.prog.funcNamed "inquest/inquestlaw04.BinBack" = some f) (hfn : Tryz.pinned.checked.prog.funcs[f]? = some fn) :
    true = Tryz.pinned.checked.prog.looks [] ∧ ∀ (j : Nat) t, fn.params[j]? = some t → Tryz.pinned.checked.prog.wantsStandIn t = false := by
  obtain rfl : f = 3 := Option.some.inj ((show Tryz.prog.funcNamed "inquest/inquestlaw04.BinBack" = some 3 by kernel_rfl).symm.trans hf) |>.symm
  obtain rfl : fn = Tryz.f3 := (Option.some.inj (Tryz.func3.symm.trans hfn)).symm
  refine ⟨by kernel_rfl, fun j t ht => ?_⟩
  rw [Tryz.params3] at ht
  have hm := Array.mem_of_getElem? ht
  have hall : ∀ t ∈ #[26, 27, 3], Tryz.prog.wantsStandIn t = false := by decide +kernel
  exact hall t hm
theorem cardUpto : Rows.BinBackUptoCardSaid :=
  Claim7.holds_tied_plain_at .later [] _ _ _ _ saidUpto (fun _ h => by cases h) (by kernel_rfl) (fun _ h => by cases h) binBackUpto_row_tie rfl ⟨rfl, rfl⟩ (by kernel_rfl) rfl plain (by kernel_rfl)
end Go.Proofs.YtglhnmbfkbjemaaGreatDoor.binBack
