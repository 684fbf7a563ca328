/- VcdLoose returns true for every two rows of bytes, where what it reads is of bulk at most 1048576: blanks, tabs and line ends between words count for nothing, nor do comments behind words. Conditions: the bound; the listed variables start as the program's text lays them (the card ties them). -/
import Derived.Test.YtgplkpfdbiapaaaGreatDoorPost0
import Derived.Test.YtgplkpfdbiapaaaGreatDoorPost
import Derived.Test.YtgplkpfdbiapaaaGreatDoorVdLaid
import Derived.Test.YtgplkpfdbiapaaaGreatDoorVdLooseL
import Derived.Test.YtgplkpfdbiapaaaGreatDoorGO
namespace Go.Proofs.YtgplkpfdbiapaaaGreatDoor.vcdLoose
open Go Go.ChangeShapes Go.WideShapes Go.ChangeAt Go.RowKit

set_option maxRecDepth 100000 in
theorem contract (H : Type) (enc : TypeId × Value → H) (W : World) (base : Nat) (args : Array Value) (ds gs : List (DataW H)) (before : List MemPlace)
    (hval : ∀ (j : Nat) t v, Tryz.f4.params[j]? = some t → args[j]? = some v → Value.okWide Tryz.prog W .any base t v)
    (hW : DataW.Whole enc Tryz.prog Tryz.f4.params.toList Rows.vcdLooseSpec.vars false W args.toList ds gs before) (hL : laidMetH Tryz.prog Rows.vcdLooseRow.laid W)
    (hk : Rows.uptoSmall H (ds ++ gs) = true) (hS : W.ShapedOpen Tryz.prog) :
    Calls Tryz.prog 4 args W fun e W' => ∃ v, e = .returned v ∧ Rows.vcdLooseSpec.post enc Tryz.prog Tryz.f4 false true false false W args v W' := by
  have hW' := hW
  obtain ⟨p, q, hA0, hV, rfl, hfz, hnd⟩ := hW
  have hA : DataW.TrodAll enc Tryz.prog W 0 (fun _ => true) true Tryz.f4.params.toList args.toList ds p := hA0
  rw [Tryz.params4] at hA hval
  obtain ⟨v0, vs0, d0, ds0, p0, q0, hargs, rfl, rfl, h0, r0⟩ := trodAll_cons hA
  obtain ⟨v1, vs1, d1, ds1, p1, q1, rfl, rfl, rfl, h1, r1⟩ := trodAll_cons r0
  obtain ⟨rfl, rfl, rfl⟩ := trodAll_nil r1
  obtain rfl : args = #[v0, v1] := by cases args; simp_all
  obtain ⟨rfl, rfl⟩ := trodVars_none hV
  have hb := bulk_bound hk
  have hb0 := bulk_part (d := d0) (l := [d0, d1] ++ []) (by simp)
  have hb1 := bulk_part (d := d1) (l := [d0, d1] ++ []) (by simp)
  obtain ⟨a0, n0, c0, bs0, rfl, hs0, hn0⟩ := open_u8s (hval 0 27 _ rfl rfl) h0
  obtain ⟨a1, n1, c1, bs1, rfl, hs1, hn1⟩ := open_u8s (hval 1 27 _ rfl rfl) h1
  clear hA0 hA
  have HL : laidMet Tryz.prog laidV W := plainV W hL
  refine (loose_any W (gap_of HL hS) (num_of HL) (fun W' hb' => lives10_any W' ((gap_of HL hS).below hb') ((num_of HL).below hb') ((tab_of HL).below hb') ((vdig_of HL).below hb')) bs0 bs1 a0 a1 n0 c0 n1 c1 hs0 hs1 (u8s_cap h0) (by omega)).mono fun e W' ⟨he, hbel⟩ => ?_
  subst he
  exact ⟨_, rfl, law_end laidOut (by decide +kernel) rfl rfl Tryz.underlying4 hW' rfl rfl rfl hbel⟩

theorem laid_met (os : Os) : laidMet Tryz.prog Rows.vcdLooseUptoRow.laid ((worldV os).forCall (fun _ _ => 0) ⟨#[], #[.slice none 0 0, .slice none 0 0], []⟩).memory := metV os _
theorem reads (os : Os) {H : Type} (enc : TypeId × Value → H) : ∃ places, DataW.whole enc Tryz.prog ((worldV os).forCall (fun _ _ => 0) ⟨#[], #[.slice none 0 0, .slice none 0 0], []⟩).memory Tryz.f4.params.toList Rows.vcdLooseSpec.vars false #[Value.slice none 0 0, Value.slice none 0 0].toList 8 = some ([.nil, .nil], [], places) :=
  ⟨[], by kernel_rfl⟩

set_option maxRecDepth 100000 in
theorem liftedUpto (os : Os) (started : os.Started) (H : Type) (enc : TypeId × Value → H) (F : Stop.Interp) :
    ReturnsInHanded {} Tryz.checked os 4 .any ((Rows.OpenSpec.upto Rows.vcdLooseSpec).preRow enc Tryz.prog Tryz.f4 Rows.vcdLooseUptoRow.domain false Rows.vcdLooseUptoRow.laid) (((Rows.OpenSpec.upto Rows.vcdLooseSpec).at F).post enc Tryz.prog Tryz.f4 false true false false) := by
  obtain ⟨places, hx⟩ := reads os enc
  refine returnsInHanded_of_row (C := Tryz.checked) (s := Rows.OpenSpec.upto Rows.vcdLooseSpec) own started (by kernel_rfl) Tryz.func4
    (witnessV os #[.slice none 0 0, .slice none 0 0] (by kernel_rfl)
      (OpenSpec.preRow_of_cond 8 hx (by kernel_rfl) (fun k hk => by cases hk; kernel_rfl) (by kernel_rfl) (laid_met os))) ?_
  intro W base args ds gs before hval hW _ hcond _ hL hS _
  exact contract H enc W base args ds gs before hval hW hL (hcond _ rfl) hS

theorem saidUpto : Rows.VcdLooseUptoSaid :=
  OpenClaim.holds_of_cond 4 Tryz.f4 rfl rfl rfl rfl rfl rfl rfl ⟨rfl, rfl, rfl, rfl, rfl⟩ rfl rfl rfl rfl rfl (by kernel_rfl) Tryz.func4 (by kernel_rfl)
    (of_decide_eq_true (by kernel_rfl)) (by unfold Func.isWrapper; first | (rw [if_pos (by decide +kernel)]; kernel_rfl) | (rw [if_neg (by decide +kernel)]; exact ⟨rfl, rfl⟩))
    (fun os started H enc _ F => by rw [OpenClaim.pre_eq_preRow]; exact liftedUpto os started H enc F)

theorem plain (f : FuncId) (fn : Func) (hf : Tryz.pinned.checked.prog.funcNamed "inquest/inquestlaw10.VcdLoose" = some f) (hfn : Tryz.pinned.checked.prog.funcs[f]? = some fn) :
    true = Tryz.pinned.checked.prog.looks [] ∧ ∀ (j : Nat) t, fn.params[j]? = some t → Tryz.pinned.checked.prog.wantsStandIn t = false := by
  obtain rfl : f = 4 := Option.some.inj ((show Tryz.prog.funcNamed "inquest/inquestlaw10.VcdLoose" = some 4 by kernel_rfl).symm.trans hf) |>.symm
  obtain rfl : fn = Tryz.f4 := (Option.some.inj (Tryz.func4.symm.trans hfn)).symm
  refine ⟨by kernel_rfl, fun j t ht => ?_⟩
  rw [Tryz.params4] at ht
  have hm := Array.mem_of_getElem? ht
  have hall : ∀ t ∈ #[27, 27], Tryz.prog.wantsStandIn t = false := by decide +kernel
  exact hall t hm

/-- ████ THE SECOND FORM's CARD ████ -/
theorem cardUpto : Rows.VcdLooseUptoCardSaid :=
  Claim7.holds_tied_plain_at .later [] _ _ _ _ saidUpto (fun _ h => by cases h) (by kernel_rfl) (fun _ h => by cases h) vcdLooseUpto_row_tie rfl ⟨rfl, rfl⟩ (by kernel_rfl) rfl plain (by kernel_rfl)
end Go.Proofs.YtgplkpfdbiapaaaGreatDoor.vcdLoose
